/-
  Layer 12, the program's side: the state of Map; what the function that it is handed is to keep; told.
-/
import Derived.Test.YtlpidedijknohaaJf
namespace Go.Proofs.Ytlpidedijknohaa.Hq
open Go.RowKit Ob Hr Hj Eg
set_option linter.unusedVariables false

/-! ### the object as it is rewritten -/
structure St (W : World) (g0 M U : Nat) (o : Thing) (A : Option Addr) (c : Nat) (P : Option Addr) (d : Nat) : Prop where
  box : BoxAt W g0 25 (objC o A c P d)
  ents : RowIn 3 entV W (g0 + 2) M A o.ents
  pars : RowIn 1 stV W M U P o.parents
theorem St.lies {W : World} {g0 M U : Nat} {o : Thing} {A : Option Addr} {c : Nat} {P : Option Addr} {d : Nat} (h : St W g0 M U o A c P d) (hM : M ≤ U) : Lies W U o A P := ⟨h.ents.recs.mono hM, strs_of_recs h.pars.recs⟩
theorem St.keep {W W' : World} {g0 M U : Nat} {o : Thing} {A : Option Addr} {c : Nat} {P : Option Addr} {d : Nat} (h : St W g0 M U o A c P d) (hk : ∀ g, g0 ≤ g → g < W.heap.size → W'.heap[g]? = W.heap[g]?) (hg : g0 + 2 ≤ M) (hM : M ≤ U) (hU : U ≤ W.heap.size) : St W' g0 M U o A c P d :=
  ⟨(hk _ (Nat.le_refl _) h.box.lt).trans h.box, h.ents.keep fun g h1 h2 => hk g (by omega) (by omega), h.pars.keep fun g h1 h2 => hk g (by omega) (by omega)⟩
theorem zip_set : ∀ (es : List Ent) (l : List ByteArray) (i : Nat) (s : ByteArray), l.length = es.length → i < es.length → (List.zipWith reId es l).set i (reId ((List.zipWith reId es l).getD i default) s) = List.zipWith reId es (l.set i s)
  | e :: es, a :: l, 0, s, _, _ => rfl
  | e :: es, a :: l, i + 1, s, h, hi => by
    simp only [List.zipWith_cons_cons, List.set_cons_succ]
    refine congrArg _ ?_
    have := zip_set es l i s (by simpa using h) (by simpa using hi)
    simpa using this
theorem zip_len {es : List Ent} {l : List ByteArray} (h : l.length = es.length) : (List.zipWith reId es l).length = es.length := by rw [List.length_zipWith, h, Nat.min_self]
/-- one name written -/
theorem St.put {W : World} {g0 M U : Nat} {o : Thing} {l : List ByteArray} {A : Option Addr} {c : Nat} {P : Option Addr} {d i : Nat} (h : St W g0 M U (withF o l) A c P d) (hl : l.length = (edgesF o).length) (hi : i < (edgesF o).length) (hM : M ≤ U) (hg : g0 + 2 ≤ M) (s : ByteArray) :
    W.cell? ((placesF g0 A P o).getD i default).ad = some (.string (l.getD i default)) ∧ W.frozen? ((placesF g0 A P o).getD i default).ad = false ∧ (((placesF g0 A P o).getD i default).ad.block = g0 ∨ (g0 + 2 ≤ ((placesF g0 A P o).getD i default).ad.block ∧ ((placesF g0 A P o).getD i default).ad.block < U)) ∧ St (W.setCell ((placesF g0 A P o).getD i default).ad (.string s)) g0 M U (withF o (l.set i s)) A c P d := by
  rcases kinds o with hk | hk | hk | hk
  · rw [edges_tree hk, List.length_map] at hi hl
    rw [places_tree hk, entPl, getD_range _ hi]
    rw [with_tree hk] at h ⊢
    have hzl := zip_len hl
    obtain ⟨g, rfl, h1, h2, h3, h4, h5⟩ := h.ents.put ent_len i 2 (by rw [hzl]; exact hi) (by omega) (reId ((List.zipWith reId o.ents l).getD i default) s) (.string s) (fun j hj => by
      rcases (by omega : j = 0 ∨ j = 1 ∨ j = 2) with rfl | rfl | rfl <;> rfl)
    simp only at h5
    rw [zip_set _ _ _ _ hl hi] at h5
    have ha : entAt (some ⟨g, 0, none⟩) i = ⟨g, i * 3 + 2, none⟩ := by
      rw [entAt]
      show (⟨((⟨g, 0, none⟩ : Addr).add (i * 3)).block, ((⟨g, 0, none⟩ : Addr).add (i * 3)).off + 2, none⟩ : Addr) = _
      rw [Hg.add0]
    have hid : ((List.zipWith reId o.ents l).getD i default).id = l.getD i default := by
      have e1 := zip_ids o.ents l hl
      have e2 := getD_map Ent.id (l := List.zipWith reId o.ents l) (i := i) (by rw [hzl]; exact hi)
      rw [e1] at e2
      exact e2.symm
    simp only [ha]
    have hne : g0 ≠ g := by omega
    refine ⟨h3.trans (by simp only [entV]; rw [hid]; rfl), h4, .inr ⟨h1, by omega⟩, ⟨?_, h5, ?_⟩⟩
    · have hb := (Below.heap_setCell W ⟨g, i * 3 + 2, none⟩ (.string s) g0 (by exact hne)).trans h.box
      have e1 : (List.zipWith reId o.ents (l.set i s)).length = (List.zipWith reId o.ents l).length := by rw [List.length_zipWith, List.length_zipWith, List.length_set]
      show BoxAt _ _ _ (objC _ _ _ _ _)
      unfold objC at hb ⊢
      simp only [e1]
      exact hb
    · exact h.pars.keep fun g' h6 h7 => Below.heap_setCell _ _ _ _ (by show g' ≠ g; omega)
  · rw [edges_commit hk] at hi hl
    rw [places_commit hk]
    rw [with_commit hk] at h ⊢
    cases l with
    | nil => simp at hl
    | cons a l =>
      simp only [List.length_cons, List.length_map, Nat.add_right_cancel_iff] at hl hi
      cases i with
      | zero =>
        refine ⟨h.box.cell 3, h.box.free 3, .inl rfl, ⟨Hg.heap_setCell_cells h.box 3 _, ?_, ?_⟩⟩
        · exact h.ents.keep fun g' h6 h7 => Below.heap_setCell _ _ _ _ (by show g' ≠ g0; omega)
        · exact h.pars.keep fun g' h6 h7 => Below.heap_setCell _ _ _ _ (by show g' ≠ g0; omega)
      | succ i =>
        have hi' : i < o.parents.length := by omega
        have e1 : ((⟨⟨g0, 3, none⟩, 2⟩ : Plc) :: parPl P o.parents.length).getD (i + 1) default = ⟨parAt P i, 3⟩ := by
          show (parPl P o.parents.length).getD i default = _
          rw [parPl, getD_range _ hi']
        rw [e1]
        obtain ⟨g, rfl, h1, h2, h3, h4, h5⟩ := h.pars.put stV_len i 0 (by show i < l.length; omega) (by omega) s (.string s) (fun j hj => by
          obtain rfl : j = 0 := by omega
          rfl)
        have ha : parAt (some ⟨g, 0, none⟩) i = ⟨g, i * 1 + 0, none⟩ := by
          rw [parAt]
          show (⟨g, 0, none⟩ : Addr).add i = _
          rw [Hg.add0, Nat.mul_one, Nat.add_zero]
        simp only [ha]
        refine ⟨h3, h4, .inr ⟨by show g0 + 2 ≤ g; omega, h2⟩, ⟨?_, ?_, h5⟩⟩
        · have hb := (Below.heap_setCell W ⟨g, i * 1 + 0, none⟩ (.string s) g0 (by show g0 ≠ g; omega)).trans h.box
          have e1 : ((a :: l).set (i + 1) s).drop 1 = l.set i s := rfl
          have e2 : ((a :: l).drop 1).length = (((a :: l).set (i + 1) s).drop 1).length := by rw [e1, List.length_set]; rfl
          show BoxAt _ _ _ (objC _ _ _ _ _)
          unfold objC at hb ⊢
          simp only [← e2]
          exact hb
        · exact h.ents.keep fun g' h6 h7 => Below.heap_setCell _ _ _ _ (by show g' ≠ g; omega)
  · rw [edges_tag hk] at hi hl
    rw [places_tag hk]
    rw [with_tag hk] at h ⊢
    have hi0 : i = 0 := by simpa using hi
    subst hi0
    match l, hl with
    | [a], _ =>
      refine ⟨h.box.cell 5, h.box.free 5, .inl rfl, ⟨Hg.heap_setCell_cells h.box 5 _, ?_, ?_⟩⟩
      · exact h.ents.keep fun g' h6 h7 => Below.heap_setCell _ _ _ _ (by show g' ≠ g0; omega)
      · exact h.pars.keep fun g' h6 h7 => Below.heap_setCell _ _ _ _ (by show g' ≠ g0; omega)
  · rw [edges_none hk] at hi
    simp at hi

/-! ### the names, one by one -/
def mixL (told : Nat → ByteArray) (ids : List ByteArray) : Nat → List ByteArray
  | 0 => ids
  | k + 1 => (mixL told ids k).set k (told k)
theorem mix_len (told : Nat → ByteArray) (ids : List ByteArray) : ∀ k, (mixL told ids k).length = ids.length
  | 0 => rfl
  | k + 1 => by rw [mixL, List.length_set, mix_len told ids k]
theorem mix_ge (told : Nat → ByteArray) (ids : List ByteArray) : ∀ k i, k ≤ i → (mixL told ids k)[i]? = ids[i]?
  | 0, i, _ => rfl
  | k + 1, i, h => by rw [mixL, List.getElem?_set_ne (by omega), mix_ge told ids k i (by omega)]
theorem mix_lt (told : Nat → ByteArray) (ids : List ByteArray) : ∀ k i, i < k → i < ids.length → (mixL told ids k)[i]? = some (told i)
  | k + 1, i, h, hi => by
    by_cases e : i = k
    · subst e
      rw [mixL, List.getElem?_set_self (by rw [mix_len]; exact hi)]
    · rw [mixL, List.getElem?_set_ne (by omega), mix_lt told ids k i (by omega) hi]
theorem mix_all (told : Nat → ByteArray) (ids : List ByteArray) : mixL told ids ids.length = (List.range ids.length).map told := by
  apply List.ext_getElem?
  intro i
  by_cases hi : i < ids.length
  · rw [mix_lt told ids _ i hi hi]
    simp [hi]
  · rw [mix_ge told ids _ i (by omega), List.getElem?_eq_none (by omega), List.getElem?_eq_none (by simp; omega)]

/-! ### the function that is handed in -/
/-- what lies at B or above is as it was -/
structure Above (B : Nat) (W W' : World) : Prop where
  size : W.heap.size ≤ W'.heap.size
  block : ∀ k, B ≤ k → k < W.heap.size → W'.heap[k]? = W.heap[k]?
theorem Above.of {B : Nat} {W W' : World} (h : Below W.heap.size W W') : Above B W W' := ⟨h.size, fun k _ hk => h.block k hk⟩
structure FnOk (B : Nat) (es : List Edg) (told : Nat → ByteArray) (er : Nat → Int) (f : Nat) (lb : Array Value) (S : Nat → World → Prop) : Prop where
  enters : ∀ args w, (callFunc f args).run Try.prog w = .ok (.enter f args) w
  under : ∀ i W W', S i W → Below B W W' → S i W'
  call : ∀ i W, S i W → B ≤ W.heap.size → i < es.length → Calls Try.prog f (#[.agg #[.string (es.getD i default).1, .int .i64 (es.getD i default).2]] ++ lb) W fun e W' => e = .returned (.tuple #[.string (told i), .int .i64 (er i)]) ∧ S (i + 1) W' ∧ Above B W W'
theorem eq_fn_some (w : World) (f : Fn) (a b : Array Value) : (binOp .eql 41 (.func f a b) .nilFunc).run Try.prog w = .ok (.bool false) w := by kernel_rfl

set_option maxHeartbeats 2000000 in
set_option maxRecDepth 100000 in
theorem told_any {B : Nat} {es : List Edg} {told : Nat → ByteArray} {er : Nat → Int} {f : Nat} {lb : Array Value} {S : Nat → World → Prop} (F : FnOk B es told er f lb S) (i : Nat) (W : World) (hS : S i W) (hB : B ≤ W.heap.size) (hi : i < es.length) :
    Calls Try.prog 30 #[.func (.func f) #[] lb, .agg #[.string (es.getD i default).1, .int .i64 (es.getD i default).2]] W fun e W' => e = .returned (.tuple #[.string (told i), .int .i64 (er i)]) ∧ S (i + 1) W' ∧ Above B W W' := by
  have hb : Below W.heap.size W (W.alloc (.cells #[.string (es.getD i default).1, .int .i64 (es.getD i default).2] 36 (0, 0))) := (Below.refl _ W).alloc (Nat.le_refl _) _
  have HC := Lib.hid (F.call i _ (F.under i _ _ hS (hb.mono hB)) (Nat.le_trans hB hb.size) hi)
  have hx := box_new W 36 #[.string (es.getD i default).1, .int .i64 (es.getD i default).2]
  have k0 := hx.cell 0
  have k1 := hx.cell 1
  have hen := F.enters
  have hq := eq_fn_some
  have HB := Lib.hid hb
  clear hS hb hx F hi
  generalize (es.getD i default).1 = s at *
  generalize (es.getD i default).2 = kd at *
  go_enter Try.func30, Try.ntmps30
  go_wp2_with fail
  refine HC.out.mono ?_
  rintro r W5 ⟨rfl, hs5, ha5⟩
  have HX := Lib.hid (And.intro hs5 (show Above B W W5 from ⟨Nat.le_trans HB.out.size ha5.size, fun k h1 h2 => (ha5.block k h1 (Nat.lt_of_lt_of_le h2 HB.out.size)).trans (HB.out.block k h2)⟩))
  clear hs5 ha5
  go_wp2
  go_ret2
  exact ⟨rfl, HX.out.1, HX.out.2⟩
end Go.Proofs.Ytlpidedijknohaa.Hq
