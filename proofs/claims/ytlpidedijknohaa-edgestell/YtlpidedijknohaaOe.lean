/-
  Layer 11: objects as values: their slices in memory, a box that holds one; the document's comparing of them.
-/
import Derived.Test.YtlpidedijknohaaOf
import Derived.Test.YtlpidedijknohaaRc
import Derived.Test.YtlpidedijknohaaGb
import Derived.Laws.StructEq
import Derived.StillTailTactics
namespace Go.Proofs.Ytlpidedijknohaa.Hj
open Go.RowKit Ob Hr
set_option linter.unusedVariables false

def entV (e : Ent) : List Value := [.int .i64 e.mode, .string e.name, .string e.id]
instance : Inhabited Ent := ⟨⟨0, ⟨#[]⟩, ⟨#[]⟩⟩⟩
abbrev Ents (w : World) (B : Nat) (A : Option Addr) (l : List Ent) : Prop := Recs 3 entV w B A l
abbrev objC (o : Thing) (A : Option Addr) (c : Nat) (P : Option Addr) (d : Nat) : Array Value :=
  #[.int .i64 o.kind, .string o.text, .slice A o.ents.length c, .string o.tree, .slice P o.parents.length d, .string o.target, .int .i64 o.ofk, .string o.name, .string o.who, .int .i64 o.time]
/-- an object's slices -/
structure Lies (w : World) (B : Nat) (o : Thing) (A P : Option Addr) : Prop where
  ents : Ents w B A o.ents
  pars : Strs w B P o.parents
theorem strs_mono {w : World} {B B' : Nat} {A : Option Addr} {l : List ByteArray} (h : Strs w B A l) (hB : B ≤ B') : Strs w B' A l := fun i hi => by
  obtain ⟨a, e, hlt, hc⟩ := h i hi
  exact ⟨a, e, Nat.lt_of_lt_of_le hlt hB, hc⟩
section
variable {w w' : World} {B B' : Nat} {o : Thing} {A P : Option Addr}
theorem Lies.below (h : Lies w B o A P) (hb : Below B w w') : Lies w' B o A P := ⟨h.ents.below hb, h.pars.below hb⟩
theorem Lies.mono (h : Lies w B o A P) (hB : B ≤ B') : Lies w B' o A P := ⟨h.ents.mono hB, strs_mono h.pars hB⟩
end
/-- small enough to go through -/
structure Small (o : Thing) : Prop where
  text : o.text.size ≤ 100000
  ents : o.ents.length ≤ 1000
  tree : o.tree.size ≤ 100000
  pars : o.parents.length ≤ 1000
  target : o.target.size ≤ 100000
  name : o.name.size ≤ 100000
  who : o.who.size ≤ 100000
  ent : ∀ e ∈ o.ents, e.name.size ≤ 100000 ∧ e.id.size ≤ 100000
  par : ∀ p ∈ o.parents, p.size ≤ 100000

/-- a block that holds a struct's cells -/
def BoxAt (w : World) (g t : Nat) (cs : Array Value) : Prop := w.heap[g]? = some (.cells cs t (0, 0))
section
variable {w w' : World} {g t : Nat} {cs : Array Value}
theorem BoxAt.lt (h : BoxAt w g t cs) : g < w.heap.size := (Array.getElem?_eq_some_iff.1 h).1
theorem BoxAt.step (h : BoxAt w g t cs) (hb : Below w.heap.size w w') : BoxAt w' g t cs := (hb.block g h.lt).trans h
theorem BoxAt.alloc (h : BoxAt w g t cs) (o : Go.Obj) : BoxAt (w.alloc o) g t cs := h.step ((Below.refl _ w).alloc (Nat.le_refl _) o)
theorem BoxAt.cell (h : BoxAt w g t cs) (i : Nat) : w.cell? ⟨g, i, none⟩ = cs[i]? := Hg.cell_of_cells h i
theorem BoxAt.free (h : BoxAt w g t cs) (i : Nat) : w.frozen? ⟨g, i, none⟩ = false := Hg.unfrozen_of_cells h i
end
theorem box_new (w : World) (t : Nat) (cs : Array Value) : BoxAt (w.alloc (.cells cs t (0, 0))) w.heap.size t cs := heap_alloc_new w _

theorem BoxAt.ten {w : World} {g t : Nat} {o : Thing} {A : Option Addr} {c : Nat} {P : Option Addr} {d : Nat} (h : BoxAt w g t (objC o A c P d)) :
    w.cell? ⟨g, 0, none⟩ = some (.int .i64 o.kind) ∧ w.cell? ⟨g, 1, none⟩ = some (.string o.text) ∧ w.cell? ⟨g, 2, none⟩ = some (.slice A o.ents.length c) ∧ w.cell? ⟨g, 3, none⟩ = some (.string o.tree) ∧ w.cell? ⟨g, 4, none⟩ = some (.slice P o.parents.length d) ∧
    w.cell? ⟨g, 5, none⟩ = some (.string o.target) ∧ w.cell? ⟨g, 6, none⟩ = some (.int .i64 o.ofk) ∧ w.cell? ⟨g, 7, none⟩ = some (.string o.name) ∧ w.cell? ⟨g, 8, none⟩ = some (.string o.who) ∧ w.cell? ⟨g, 9, none⟩ = some (.int .i64 o.time) :=
  ⟨h.cell 0, h.cell 1, h.cell 2, h.cell 3, h.cell 4, h.cell 5, h.cell 6, h.cell 7, h.cell 8, h.cell 9⟩
/-- two boxes -/
structure Two (w W : World) (g1 t1 : Nat) (x : Array Value) (g2 t2 : Nat) (y : Array Value) : Prop where
  a : BoxAt W g1 t1 x
  b : BoxAt W g2 t2 y
  below : Below w.heap.size w W
theorem Two.step {w W W' : World} {g1 t1 : Nat} {x : Array Value} {g2 t2 : Nat} {y : Array Value} (h : Two w W g1 t1 x g2 t2 y) (hb : Below W.heap.size W W') : Two w W' g1 t1 x g2 t2 y := ⟨h.a.step hb, h.b.step hb, h.below.trans (hb.mono h.below.size)⟩
theorem two_new (w : World) (t1 t2 : Nat) (x y : Array Value) : Two w ((w.alloc (.cells x t1 (0, 0))).alloc (.cells y t2 (0, 0))) w.heap.size t1 x (w.heap.size + 1) t2 y :=
  ⟨(box_new w t1 x).alloc _, by have h := box_new (w.alloc (.cells x t1 (0, 0))) t2 y; rwa [World.size_alloc] at h, ((Below.refl _ w).alloc (Nat.le_refl _) _).alloc (by simp) _⟩
theorem Lies.step {w w' : World} {o : Thing} {A P : Option Addr} (h : Lies w w.heap.size o A P) (hb : Below w.heap.size w w') : Lies w' w'.heap.size o A P := (h.below hb).mono hb.size

/-! ### the same -/
theorem str_eqb (a b : ByteArray) : decide (a = b) = (a.toList == b.toList) := by
  rw [toList_bl, toList_bl, Bool.eq_iff_iff]
  simp only [decide_eq_true_eq, beq_iff_eq]
  exact ⟨fun h => by rw [h], bl_inj⟩
theorem int_eqb (a b : Int) : decide (a = b) = (a == b) := by rw [Bool.eq_iff_iff]; simp
theorem run_three (a b c a' b' c' : Value) (p q r : Bool) (w : World) (fs : List Field) (hl : fs.length = 3)
    (h0 : ((fs[0]?).map fun f => f.type == 3 && f.offset == 0 && f.name != "_") = some true) (h1 : ((fs[1]?).map fun f => f.type == 9 && f.offset == 1 && f.name != "_") = some true) (h2 : ((fs[2]?).map fun f => f.type == 9 && f.offset == 2 && f.name != "_") = some true)
    (pa : ∀ x y z : Value, (part 3 #[x, y, z] 0).run Try.prog w = .ok x w) (pb : ∀ x y z : Value, (part 9 #[x, y, z] 1).run Try.prog w = .ok y w) (pc : ∀ x y z : Value, (part 9 #[x, y, z] 2).run Try.prog w = .ok z w)
    (ea : (Op.equalIn 9999 3 a a').run Try.prog w = .ok p w) (eb : (Op.equalIn 9999 9 b b').run Try.prog w = .ok q w) (ec : (Op.equalIn 9999 9 c c').run Try.prog w = .ok r w) :
    (Op.eqFields 9999 #[a, b, c] #[a', b', c'] fs).run Try.prog w = .ok (p && q && r) w := by
  obtain ⟨f, g, h, rfl⟩ := (by match fs, hl with | [f, g, h], _ => exact ⟨f, g, h, rfl⟩ : ∃ f g h, fs = [f, g, h])
  simp only [List.getElem?_cons_zero, List.getElem?_cons_succ, Option.map_some, Option.some.injEq, Bool.and_eq_true, beq_iff_eq, bne_iff_ne] at h0 h1 h2
  obtain ⟨⟨f1, f2⟩, f3⟩ := h0
  obtain ⟨⟨g1, g2⟩, g3⟩ := h1
  obtain ⟨⟨k1, k2⟩, k3⟩ := h2
  rw [← f1] at pa ea
  rw [← f2] at pa
  have pb2 := pb
  rw [← g1] at pb eb
  rw [← g2] at pb
  rw [← k1] at pc ec
  rw [← k2] at pc
  cases p <;> cases q <;> cases r <;> simp [Op.eqFields, f3, g3, k3, Sem.run_bind, pa, pb, pc, ea, eb, ec]
theorem neq_ent (a b : Ent) (w : World) : (binOp .neq 46 (.agg #[.int .i64 a.mode, .string a.name, .string a.id]) (.agg #[.int .i64 b.mode, .string b.name, .string b.id])).run Try.prog w = .ok (.bool (!entSame a b)) w := by
  have h : (Op.equalIn 10000 46 (.agg #[.int .i64 a.mode, .string a.name, .string a.id]) (.agg #[.int .i64 b.mode, .string b.name, .string b.id])).run Try.prog w = .ok (entSame a b) w := by
    rw [run_equalIn_agg w 9999 46 _ _ (by kernel_rfl) (by kernel_rfl)]
    rw [entSame, str_eqb, str_eqb, int_eqb]
    exact run_three _ _ _ _ _ _ _ _ _ w _ (by kernel_rfl) (by kernel_rfl) (by kernel_rfl) (by kernel_rfl) (fun x y z => by simp [part, Try.isAgg3]) (fun x y z => by simp [part, Try.isAgg9]) (fun x y z => by simp [part, Try.isAgg9])
      (run_equalIn_int w 9998 3 .i64 .i64 _ _ Try.underlying3) (run_equalIn_string w 9998 9 _ _ Try.underlying9) (run_equalIn_string w 9998 9 _ _ Try.underlying9)
  rw [run_neq_struct, h]; rfl
theorem ents_diff {l r : List Ent} {k : Nat} (hk : k < l.length) (h : entSame (l.getD k default) (r.getD k default) = false) : entsSame l r = false := by
  cases hs : entsSame l r with
  | false => rfl
  | true =>
    obtain rfl := entsSame_iff.1 hs
    rw [entSame_iff.2 rfl] at h
    exact absurd h (by decide)
theorem ents_same {l r : List Ent} (hl : l.length = r.length) (h : ∀ j, j < l.length → entSame (l.getD j default) (r.getD j default) = true) : entsSame l r = true := by
  refine entsSame_iff.2 (List.ext_getElem hl fun i hi hj => ?_)
  have := entSame_iff.1 (h i hi)
  simpa [List.getD, List.getElem?_eq_getElem hi, List.getElem?_eq_getElem hj] using this
theorem ents_len {l r : List Ent} (hl : l.length ≠ r.length) : entsSame l r = false := by
  cases hs : entsSame l r with
  | false => rfl
  | true => exact absurd (congrArg List.length (entsSame_iff.1 hs)) hl

set_option maxHeartbeats 4000000 in
set_option maxRecDepth 100000 in
theorem entries_any (w : World) (B : Nat) (A A' : Option Addr) (c c' : Nat) (l l' : List Ent) (h : Ents w B A l) (h' : Ents w B A' l') (hl : l.length ≤ 1000000) (hB : B ≤ w.heap.size) :
    Calls Try.prog 31 #[.slice A l.length c, .slice A' l'.length c'] w fun e w' => e = .returned (.bool (entsSame l l')) ∧ Below w.heap.size w w' := by
  have HI := Lib.hid h
  have HJ := Lib.hid h'
  clear h h'
  by_cases hll : l.length = l'.length
  · have hi : ((l.length : Int) != l'.length) = false := by simp [hll]
    have HL := Lib.hid hll
    clear hll
    go_enter Try.func31, Try.ntmps31
    go_wp2_with fail
    go_loopg [5] l.length (fun g i wr => ∃ k : Nat, k ≤ l.length ∧ g = l.length - k ∧ i = .int .i64 k ∧ Below w.heap.size w wr ∧ ∀ j, j < k → entSame (l.getD j default) (l'.getD j default) = true)
    case atStart => exact ⟨0, Nat.zero_le _, rfl, rfl, Below.refl _ _, fun j hj => by omega⟩
    case round =>
      obtain ⟨k, hk, rfl, rfl, hbw, hno⟩ := hrel
      have HBW := Lib.hid hbw
      have HI := Lib.hid (HI.out.below (hbw.mono hB))
      have HJ := Lib.hid (HJ.out.below (hbw.mono hB))
      clear hbw
      have HN := Lib.hid hno
      clear hno
      by_cases hlt : k < l.length
      · have h1 : (k : Int) < l.length := by omega
        have h0 : (0 : Int) ≤ k := by omega
        have h2 : (k : Int) < l'.length := by rw [← HL.out]; exact h1
        obtain ⟨ad, rfl, hB1, hc⟩ := HI.out k hlt
        obtain ⟨ad', rfl, hB', hc'⟩ := HJ.out k (by rw [← HL.out]; exact hlt)
        have c0 : wr.cell? (ad.add (k * 3)) = some (.int .i64 (l.getD k default).mode) := by have := hc 0 (by omega); rwa [show (ad.add (k * 3)).add 0 = ad.add (k * 3) from rfl] at this
        have c1 : wr.cell? ⟨(ad.add (k * 3)).block, (ad.add (k * 3)).off + 1, none⟩ = some (.string (l.getD k default).name) := hc 1 (by omega)
        have c2 : wr.cell? ⟨(ad.add (k * 3)).block, (ad.add (k * 3)).off + 2, none⟩ = some (.string (l.getD k default).id) := hc 2 (by omega)
        have d0 : wr.cell? (ad'.add (k * 3)) = some (.int .i64 (l'.getD k default).mode) := by have := hc' 0 (by omega); rwa [show (ad'.add (k * 3)).add 0 = ad'.add (k * 3) from rfl] at this
        have d1 : wr.cell? ⟨(ad'.add (k * 3)).block, (ad'.add (k * 3)).off + 1, none⟩ = some (.string (l'.getD k default).name) := hc' 1 (by omega)
        have d2 : wr.cell? ⟨(ad'.add (k * 3)).block, (ad'.add (k * 3)).off + 2, none⟩ = some (.string (l'.getD k default).id) := hc' 2 (by omega)
        have hq := fun W => neq_ent (l.getD k default) (l'.getD k default) W
        cases he : entSame (l.getD k default) (l'.getD k default) with
        | false =>
          have HX := Lib.hid (ents_diff hlt he)
          rw [he] at hq
          generalize l.getD k default = x at *
          generalize l'.getD k default = y at *
          clear hc hc' he
          go_wp2
          refine wp_region_still_lit (by kernel_rfl) (by kernel_rfl) ?_
          change wpStill _ _ (World.drew _) (fun a' => Exit.then _ _ _ a' (World.drew _)) _ _
          iterate 9 still_step
          refine wpStill_nil ?_
          go_wp2
          go_ret
          exact ⟨ret_bool HX.out.symm, HBW.out.drew⟩
        | true =>
          have HX := Lib.hid (show ∀ j, j < k + 1 → entSame (l.getD j default) (l'.getD j default) = true from fun j hj => by
            by_cases e : j = k
            · rw [e]; exact he
            · exact HN.out j (by omega))
          rw [he] at hq
          generalize l.getD k default = x at *
          generalize l'.getD k default = y at *
          clear hc hc' he
          go_wp2
          refine wp_region_still_lit (by kernel_rfl) (by kernel_rfl) ?_
          change wpStill _ _ (World.drew _) (fun a' => Exit.then _ _ _ a' (World.drew _)) _ _
          iterate 9 still_step
          refine wpStill_nil ?_
          go_wp2
          go_roundg (l.length - (k + 1))
          case rel => exact ⟨k + 1, by omega, rfl, by go_num, HBW.out.drew, HX.out⟩
          case measure => omega
      · have h1 : ¬ (k : Int) < l.length := by omega
        have HX := Lib.hid (ents_same HL.out fun j hj => HN.out j (by omega))
        go_wp2
        go_ret
        exact ⟨ret_bool HX.out.symm, HBW.out⟩
  · have hi : ((l.length : Int) != l'.length) = true := by simp; omega
    have HX := Lib.hid (ents_len hll)
    clear hll
    go_enter Try.func31, Try.ntmps31
    go_wp2_with fail
    go_ret
    exact ⟨ret_bool HX.out.symm, Below.refl _ _⟩

theorem texts_diff {l r : List ByteArray} {k : Nat} (hk : k < l.length) (h : ¬ l.getD k ByteArray.empty = r.getD k ByteArray.empty) : decide (l = r) = false := decide_eq_false fun e => h (by rw [e])
theorem texts_same {l r : List ByteArray} (hl : l.length = r.length) (h : ∀ j, j < l.length → l.getD j ByteArray.empty = r.getD j ByteArray.empty) : decide (l = r) = true := by
  refine decide_eq_true (List.ext_getElem hl fun i hi hj => ?_)
  have := h i hi
  simpa [List.getD, List.getElem?_eq_getElem hi, List.getElem?_eq_getElem hj] using this
def textsSame (l r : List ByteArray) : Bool := decide (l = r)

set_option maxHeartbeats 4000000 in
set_option maxRecDepth 100000 in
theorem texts_any (w : World) (B : Nat) (A A' : Option Addr) (c c' : Nat) (l l' : List ByteArray) (h : Strs w B A l) (h' : Strs w B A' l') (hl : l.length ≤ 1000000) (hB : B ≤ w.heap.size) :
    Calls Try.prog 10 #[.slice A l.length c, .slice A' l'.length c'] w fun e w' => e = .returned (.bool (textsSame l l')) ∧ Below w.heap.size w w' := by
  have HI := Lib.hid h
  have HJ := Lib.hid h'
  clear h h'
  by_cases hll : l.length = l'.length
  · have hi : ((l.length : Int) != l'.length) = false := by simp [hll]
    have HL := Lib.hid hll
    clear hll
    go_enter Try.func10, Try.ntmps10
    go_wp2_with fail
    go_loopg [5] l.length (fun g i wr => ∃ k : Nat, k ≤ l.length ∧ g = l.length - k ∧ i = .int .i64 k ∧ Below w.heap.size w wr ∧ ∀ j, j < k → l.getD j ByteArray.empty = l'.getD j ByteArray.empty)
    case atStart => exact ⟨0, Nat.zero_le _, rfl, rfl, Below.refl _ _, fun j hj => by omega⟩
    case round =>
      obtain ⟨k, hk, rfl, rfl, hbw, hno⟩ := hrel
      have HBW := Lib.hid hbw
      have HI := Lib.hid (HI.out.below (hbw.mono hB))
      have HJ := Lib.hid (HJ.out.below (hbw.mono hB))
      clear hbw
      have HN := Lib.hid hno
      clear hno
      by_cases hlt : k < l.length
      · have h1 : (k : Int) < l.length := by omega
        have h0 : (0 : Int) ≤ k := by omega
        have h2 : (k : Int) < l'.length := by rw [← HL.out]; exact h1
        obtain ⟨ad, rfl, hB1, c0⟩ := HI.out k hlt
        obtain ⟨ad', rfl, hB', d0⟩ := HJ.out k (by rw [← HL.out]; exact hlt)
        by_cases he : l.getD k ByteArray.empty = l'.getD k ByteArray.empty
        · have HX := Lib.hid (show ∀ j, j < k + 1 → l.getD j ByteArray.empty = l'.getD j ByteArray.empty from fun j hj => by
            by_cases e : j = k
            · rw [e]; exact he
            · exact HN.out j (by omega))
          have hq := str_beq he
          generalize l.getD k ByteArray.empty = x at *
          generalize l'.getD k ByteArray.empty = y at *
          clear he
          go_wp2
          refine wp_region_still_lit (by kernel_rfl) (by kernel_rfl) ?_
          change wpStill _ _ (World.drew _) (fun a' => Exit.then _ _ _ a' (World.drew _)) _ _
          iterate 9 still_step
          refine wpStill_nil ?_
          go_wp2
          go_roundg (l.length - (k + 1))
          case rel => exact ⟨k + 1, by omega, rfl, by go_num, HBW.out.drew, HX.out⟩
          case measure => omega
        · have HX := Lib.hid (texts_diff hlt he)
          have hq := str_bne he
          generalize l.getD k ByteArray.empty = x at *
          generalize l'.getD k ByteArray.empty = y at *
          clear he
          go_wp2
          refine wp_region_still_lit (by kernel_rfl) (by kernel_rfl) ?_
          change wpStill _ _ (World.drew _) (fun a' => Exit.then _ _ _ a' (World.drew _)) _ _
          iterate 9 still_step
          refine wpStill_nil ?_
          go_wp2
          go_ret
          exact ⟨ret_bool HX.out.symm, HBW.out.drew⟩
      · have h1 : ¬ (k : Int) < l.length := by omega
        have HX := Lib.hid (texts_same HL.out fun j hj => HN.out j (by omega))
        go_wp2
        go_ret
        exact ⟨ret_bool HX.out.symm, HBW.out⟩
  · have hi : ((l.length : Int) != l'.length) = true := by simp; omega
    have HX := Lib.hid (show decide (l = l') = false from decide_eq_false fun e => hll (by rw [e]))
    clear hll
    go_enter Try.func10, Try.ntmps10
    go_wp2_with fail
    go_ret
    exact ⟨ret_bool HX.out.symm, Below.refl _ _⟩
end Go.Proofs.Ytlpidedijknohaa.Hj
