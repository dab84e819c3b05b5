/-
  Slices whose elements are structs of k cells, read as a list: any type of elements, by the cells that one has.
-/
import Derived.Test.YtlpidedijknohaaC
import Derived.ArgAppend
import Derived.Laws.Rows
import Derived.Laws.Tables
import Derived.Maps.AppendAt
import Derived.OwnWalk
import Derived.Deep.AppendLies
import Derived.Deep.LoopGhost
import Derived.Deep.Slices
import Derived.WideShapes
import Derived.ChangeSlices
import Derived.ChangeSame
import Derived.Lib.Hide
import Derived.IntWalk
namespace Go.Proofs.Ytlpidedijknohaa.Hr
open Go.RowKit Go.WideShapes
set_option linter.unusedVariables false

section
variable {α : Type} {k : Nat} {f : α → List Value}
theorem flat_get (hk : ∀ a, (f a).length = k) : ∀ (l : List α) (i j : Nat) (hi : i < l.length), j < k → (l.flatMap f)[i * k + j]? = (f l[i])[j]?
  | a :: l, 0, j, _, hj => by
    rw [List.flatMap_cons, Nat.zero_mul, Nat.zero_add, List.getElem?_append_left (by rw [hk]; exact hj)]
    rfl
  | a :: l, i + 1, j, hi, hj => by
    rw [List.flatMap_cons, List.getElem?_append_right (by rw [hk, Nat.succ_mul]; omega), hk, show (i + 1) * k + j - k = i * k + j by rw [Nat.succ_mul]; omega]
    exact flat_get hk l i j (by simpa using hi) hj
theorem flat_len (hk : ∀ a, (f a).length = k) (l : List α) : (l.flatMap f).length = l.length * k := by
  induction l with
  | nil => simp
  | cons a l ih => rw [List.flatMap_cons, List.length_append, hk, ih, List.length_cons, Nat.succ_mul]; omega
end
theorem add_add (a : Addr) (m j : Nat) : (a.add m).add j = a.add (m + j) := by
  unfold Addr.add
  by_cases hm : m = 0
  · subst hm
    simp
  · by_cases hj : j = 0
    · subst hj; simp [hm]
    · rw [if_neg hj, if_neg hm, if_neg (by omega)]; simp [Nat.add_assoc]
section
variable {α : Type} [Inhabited α] (k : Nat) (f : α → List Value)
/-- a slice that reads as l, each element by its cells -/
def Recs (w : World) (B : Nat) (A : Option Addr) (l : List α) : Prop :=
  ∀ i, i < l.length → ∃ ad, A = some ad ∧ ad.block < B ∧ ∀ j, j < k → w.cell? ((ad.add (i * k)).add j) = (f (l.getD i default))[j]?
end
section
variable {α : Type} [Inhabited α] {k : Nat} {f : α → List Value} {w w' : World} {B B' : Nat} {A : Option Addr} {l : List α}
theorem Recs.below (h : Recs k f w B A l) (hb : Below B w w') : Recs k f w' B A l := fun i hi => by
  obtain ⟨ad, e, hlt, hc⟩ := h i hi
  exact ⟨ad, e, hlt, fun j hj => by rw [hb.cell (by rw [block_of_add, block_of_add]; exact hlt)]; exact hc j hj⟩
theorem Recs.mono (h : Recs k f w B A l) (hB : B ≤ B') : Recs k f w B' A l := fun i hi => by
  obtain ⟨ad, e, hlt, hc⟩ := h i hi
  exact ⟨ad, e, Nat.lt_of_lt_of_le hlt hB, hc⟩
theorem recs_nil (w : World) (B : Nat) (A : Option Addr) : Recs k f w B A ([] : List α) := fun i hi => by cases hi
theorem Recs.take (h : Recs k f w B A l) (n : Nat) : Recs k f w B A (l.take n) := fun i hi => by
  have hi2 : i < n ∧ i < l.length := by rw [List.length_take] at hi; omega
  obtain ⟨ad, e, hlt, hc⟩ := h i hi2.2
  exact ⟨ad, e, hlt, fun j hj => by rw [hc j hj]; simp [List.getD, hi2.1]⟩
theorem Recs.drop {ad : Addr} (h : Recs k f w B (some ad) l) (n : Nat) : Recs k f w B (some (ad.add (n * k))) (l.drop n) := fun i hi => by
  have hi2 : n + i < l.length := by rw [List.length_drop] at hi; omega
  obtain ⟨ad', e, hlt, hc⟩ := h (n + i) hi2
  injection e with e
  subst e
  refine ⟨_, rfl, by rw [block_of_add]; exact hlt, fun j hj => ?_⟩
  have hc' := hc j hj
  rw [add_add, add_add, ← Nat.add_assoc, ← Nat.add_mul]
  rw [add_add] at hc'
  rw [hc']
  simp [List.getD]
/-- its cells, one behind the other -/
theorem recs_cells (hk : ∀ a, (f a).length = k) (hp : 0 < k) {ad : Addr} (h : Recs k f w B (some ad) l) : ∀ j u, (l.flatMap f)[j]? = some u → w.cell? (ad.add j) = some u := fun j u hu => by
  have hj : j < l.length * k := by have := (List.getElem?_eq_some_iff.1 hu).1; rwa [flat_len hk] at this
  have hi : j / k < l.length := Nat.div_lt_of_lt_mul (by rw [Nat.mul_comm]; exact hj)
  have hr : j % k < k := Nat.mod_lt _ hp
  have e : j = j / k * k + j % k := by rw [Nat.mul_comm]; exact (Nat.div_add_mod j k).symm
  obtain ⟨ad', e1, _, hc⟩ := h (j / k) hi
  injection e1 with e1
  subst e1
  have hc' := hc _ hr
  rw [add_add, ← e] at hc'
  rw [hc', ← hu]
  conv => rhs; rw [e]
  rw [flat_get hk l _ _ hi hr]
  simp [List.getD, List.getElem?_eq_getElem hi]
/-- a row of the call's own -/
theorem recs_own {e : TypeId} {base n : Nat} {v : Value} (hk : ∀ a, (f a).length = k) (hp : 0 < k) (h : w.ownsRow base e k v n (l.flatMap f)) : ∃ A c, v = .slice A l.length c ∧ n = l.length ∧ Recs k f w w.heap.size A l := by
  have hn : n = l.length := by
    have := h.1
    rw [flat_len hk] at this
    exact (Nat.eq_of_mul_eq_mul_right hp this).symm
  subst hn
  rcases h.2 with ⟨rfl, h0⟩ | ⟨g, cap, cur, rfl, hb, hg, hle, hm, hsz, htk⟩
  · refine ⟨none, 0, by rw [h0], rfl, fun i hi => by omega⟩
  · refine ⟨_, cap, rfl, rfl, fun i hi => ⟨_, rfl, (Array.getElem?_eq_some_iff.1 hg).1, fun j hj => ?_⟩⟩
    have hg2 := flat_get hk l i j hi hj
    have hjl : j < (f l[i]).length := by rw [hk]; exact hj
    rw [List.getElem?_eq_getElem hjl] at hg2
    have := h.cells (g := g) rfl (i * k + j) _ hg2
    rw [add_add, this]
    simp [List.getD, List.getElem?_eq_getElem hi, List.getElem?_eq_getElem hjl]
theorem own_new {e : TypeId} {base n : Nat} {v : Value} {xs : List Value} {ad : Addr} (h : w.ownsRow base e k v n xs) (c : Nat) (hv : v = .slice (some ad) n c) : base ≤ ad.block ∧ ad.block < w.heap.size := h.lt ad.block (by rw [hv]; rfl)
end
/-- an append whose run is known -/
theorem wpList_append_run {P : Program} {ops : Array Oper} {rest : List Oper} {o : Oper} {a : Act} {w : World} {Q : Exit → Act → World → Prop} (hg : o.guard = none) (s x : Operand) (t t' : TypeId)
    (ho : o.op = .call { callee := .builtin .append, args := #[s, x], argTypes := #[t, t'] }) (v y v' : Value) (w' : World) (hs : a.eval s = v) (hx : a.eval x = y)
    (hrun : (Builtin.append_ #[t, t'] o.type #[v, y]).run P w = .ok v' w') (h : wpList P ops Q rest (a.put o.dst v') w') : wpList P ops Q (o :: rest) a w :=
  wpList_plain hg fun _ hK => by
    unfold Oper.wp
    simp [execOp, ho, resolve, invoke, builtin, hs, hx, hrun, Result.andThen]
    exact hK _ _ h
/-- a type of slices, and of their elements, in the program -/
structure ElemOf (t e : TypeId) (k : Nat) (i : TypeInfo) (z : Value) (bytes : Nat) : Prop where
  und : Try.prog.underlying t = some (.slice e)
  info : Try.prog.info? e = some i
  zero : i.zero = some z
  size : i.size = k
  byt : i.bytes = bytes
  zs : z.cells.size = k
  pos : 0 < k
  few : bytes ≤ 1000
theorem mkElem {t e : TypeId} {k : Nat} {z : Value} {bytes : Nat} (hu : Try.prog.underlying t = some (.slice e)) (hi : (Try.prog.info? e).map (fun i => (i.zero, i.size, i.bytes)) = some (some z, k, bytes)) (hz : z.cells.size = k) (hp : 0 < k) (hb : bytes ≤ 1000) : ∃ i, ElemOf t e k i z bytes := by
  obtain ⟨i, hi, h⟩ := Option.map_eq_some_iff.1 hi
  simp only [Prod.mk.injEq] at h
  exact ⟨i, hu, hi, h.1, h.2.1, h.2.2, hz, hp, hb⟩
section
variable {α : Type} [Inhabited α] {k : Nat} {f : α → List Value} {t e : TypeId} {i0 : TypeInfo} {z : Value} {bytes : Nat}
/-- append of any such slice to a row of the call's own -/
theorem app_recs (E : ElemOf t e k i0 z bytes) (hk : ∀ a, (f a).length = k) (h1 : ∀ a u, u ∈ f a → u.oneCell' = true) (w : World) (base : Nat) (v : Value) (xs l : List α) (A : Option Addr) (c B : Nat) (ty : TypeId)
    (ho : w.ownsRow base e k v xs.length (xs.flatMap f)) (hl : Recs k f w B A l) (hx : xs.length ≤ 100000) (hll : l.length ≤ 100000) (hbase : base ≤ w.heap.size) :
    ∃ v' w', (Builtin.append_ #[t, t] ty #[v, .slice A l.length c]).run Try.prog w = .ok v' w' ∧ w'.ownsRow base e k v' (xs ++ l).length ((xs ++ l).flatMap f) ∧ w.grownBy w' v.ownBlock ∧ (v'.ownBlock = v.ownBlock ∨ v'.ownBlock = some w.heap.size) := by
  cases A with
  | none =>
    have h0 : l = [] := by
      cases l with
      | nil => rfl
      | cons y r => obtain ⟨ad, e, _⟩ := hl 0 (by simp); cases e
    subst h0
    refine ⟨v, w, ?_, by simpa using ho, ⟨rfl, rfl, rfl, Nat.le_refl _, fun _ _ _ => rfl⟩, .inl rfl⟩
    rcases ho.2 with ⟨rfl, h0⟩ | ⟨g, cap, cur, rfl, hb, hg, hle, hm, hsz, htk⟩
    · simp [Builtin.append_, run_underlying E.und, Builtin.lenOf, Builtin.firstCells, sizeOf, typeInfo, E.info]
    · simp [Builtin.append_, run_underlying E.und, Builtin.lenOf, Builtin.firstCells, sizeOf, typeInfo, E.info, storeCells, hle]
  | some ad =>
    have hfew := E.few
    obtain ⟨v', w', hrun, hown, hgr, _, hat⟩ := run_append_own_at (P := Try.prog) w base t ty e i0 z k bytes E.und E.info E.zero E.size E.byt E.zs E.pos v xs.length (xs.flatMap f) ho ad l.length c (l.flatMap f) (flat_len hk l) (recs_cells hk E.pos hl)
      (fun u hu => by obtain ⟨a, _, ha⟩ := List.mem_flatMap.1 hu; exact h1 a u ha) (by unfold maxLen; omega)
      (by have h9 : (xs.length + l.length) * bytes ≤ 200000 * 1000 := Nat.mul_le_mul (by omega) hfew; omega) hbase
    refine ⟨v', w', hrun, ?_, hgr, hat⟩
    rw [List.length_append, List.flatMap_append]
    exact hown
end
section
variable {α : Type} [Inhabited α] {k : Nat} {f : α → List Value}
set_option maxRecDepth 100000 in
/-- an argument that is such a slice -/
theorem open_recs_arg {t e : TypeId} (ht : Try.prog.underlying t = some (.slice e)) (ce : Try.prog.cellsOf e = k) (hp : 0 < k) {H : Type} {enc : TypeId × Value → H} {W : World} {base : Nat} {v : Value} {d : DataW H} {ps : List MemPlace} (Ok : α → Prop)
    (dec : ∀ fuel cs x, cs.length = k → DataW.trod enc Try.prog W 0 (fun _ => true) true fuel e cs = some x → ∃ a, cs = f a ∧ Ok a) (hok : Value.okWide Try.prog W .any base t v)
    (h : DataW.Trod enc Try.prog W 0 (fun _ => true) true t v d ps) : ∃ (A : Option Addr) (l : List α) (c : Nat), v = .slice A l.length c ∧ Recs k f W W.heap.size A l ∧ ∀ a ∈ l, Ok a := by
  obtain ⟨a0, len, cap, rfl⟩ := okWide_slice ht hok
  obtain ⟨fuel, hf⟩ := h
  rcases Go.Deep.open_slice ht hf with ⟨hcs, hx⟩ | ⟨a, len', cap', m, n, D, Pl, hcs, hb, hl, hm, hmm, hx, hcell⟩
  · simp [Value.cells] at hcs
    obtain ⟨rfl, rfl, rfl⟩ := hcs
    exact ⟨none, [], 0, rfl, (fun i hi => by cases hi), (fun x hx => by cases hx)⟩
  · simp [Value.cells] at hcs
    obtain ⟨rfl, rfl, rfl⟩ := hcs
    simp only [if_true] at hmm
    have one : ∀ i, i < len → ∃ r : α, Ok r ∧ ∀ j, j < k → W.cell? ((a.add (i * k)).add j) = (f r)[j]? := fun i hi => by
      obtain ⟨cs', h1, h2⟩ := hcell i (by omega)
      rw [ce] at h1
      obtain ⟨_, hlen, hc⟩ := World.cells?_some h1
      obtain ⟨r, hr, hok⟩ := dec _ cs' _ hlen h2
      refine ⟨r, hok, fun j hj => ?_⟩
      rw [hc j (by omega), ← hr]
    refine ⟨some a, (List.range len).map fun i => if hi : i < len then Classical.choose (one i hi) else default, cap, by simp, fun i hi => ?_, fun x hx => ?_⟩
    · have hi' : i < len := by simpa using hi
      have hs := (Classical.choose_spec (one i hi')).2
      have hg : ((List.range len).map fun i => if hi : i < len then Classical.choose (one i hi) else default).getD i default = Classical.choose (one i hi') := by simp [List.getD, hi']
      rw [hg]
      refine ⟨a, rfl, ?_, hs⟩
      obtain ⟨cs', h1, h2⟩ := hcell i (by omega)
      rw [ce] at h1
      obtain ⟨_, hlen, hc⟩ := World.cells?_some h1
      have h0 := hc 0 (by omega)
      rw [List.getElem?_eq_getElem (by omega)] at h0
      have := World.block_lt_of_cell? _ _ h0
      rwa [block_of_add, block_of_add] at this
    · obtain ⟨i, hi, rfl⟩ := List.mem_map.1 hx
      have hi' : i < len := by simpa using hi
      rw [dif_pos hi']
      exact (Classical.choose_spec (one i hi')).1
end
end Go.Proofs.Ytlpidedijknohaa.Hr
