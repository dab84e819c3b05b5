/-
  Layer 12: one more record behind a row of the call's own; the document's Of.
-/
import Derived.Test.YtlpidedijknohaaJa
import Derived.Test.YtlpidedijknohaaOh
namespace Go.Proofs.Ytlpidedijknohaa.Hq
open Go.RowKit Ob Hr Hj Eg
set_option linter.unusedVariables false

theorem ob_size : (Try.prog.info? 25).map (·.size) = some 10 := by kernel_rfl
theorem ob_ret {fn : Func} {p : Tmp} (h : fn.results = #[.cell p 25]) (tmps : Array Value) (w : World) (g : Nat) (o : Thing) (A : Option Addr) (c : Nat) (P : Option Addr) (d : Nat)
    (hp : tmps.getD p undef = .pointer (some ⟨g, 0, none⟩)) (hg : BoxAt w g 25 (objC o A c P d)) : (results fn tmps).run Try.prog w = .ok (.agg (objC o A c P d)) w :=
  results_cell_row h tmps w g _ _ (0, 0) _ hp hg Try.underlying25 rfl ob_size
theorem take_snoc {α : Type} [Inhabited α] {l : List α} {k : Nat} (h : k < l.length) : l.take (k + 1) = l.take k ++ [l.getD k default] := by
  rw [List.take_add_one, List.getElem?_eq_getElem h]
  simp [List.getD, List.getElem?_eq_getElem h]
theorem own_down {w : World} {B B' : Nat} {e : TypeId} {k n : Nat} {v : Value} {xs : List Value} (h : w.ownsRow B e k v n xs) (hB : B' ≤ B) : w.ownsRow B' e k v n xs := by
  obtain ⟨h1, h2⟩ := h
  refine ⟨h1, ?_⟩
  rcases h2 with h2 | ⟨g, cap, cur, rfl, hb, hr⟩
  · exact .inl h2
  · exact .inr ⟨g, cap, cur, rfl, Nat.le_trans hB hb, hr⟩
theorem own_step {w w' : World} {B : Nat} {e : TypeId} {k n : Nat} {v : Value} {xs : List Value} (h : w.ownsRow B e k v n xs) (hb : Below w.heap.size w w') : w'.ownsRow B e k v n xs := by
  obtain ⟨h1, h2⟩ := h
  refine ⟨h1, ?_⟩
  rcases h2 with h2 | ⟨g, cap, cur, rfl, hB, hg, hr⟩
  · exact .inl h2
  · exact .inr ⟨g, cap, cur, rfl, hB, (hb.block g (Array.getElem?_eq_some_iff.1 hg).1).trans hg, hr⟩
section
variable {α : Type} [Inhabited α] {k : Nat} {f : α → List Value} {sl el : TypeId} {i0 : TypeInfo} {z : Value} {bytes : Nat}
theorem one_rec (hk : ∀ a, (f a).length = k) (w : World) (x : α) : Recs k f (w.alloc (.cells (f x).toArray el)) (w.heap.size + 1) (some ⟨w.heap.size, 0, none⟩) [x] := fun i hi => by
  have hi0 : i = 0 := by simpa using hi
  subst hi0
  refine ⟨_, rfl, by simp, fun j hj => ?_⟩
  have hblk := heap_alloc_new w (.cells (f x).toArray el)
  rw [add_add, Addr.add_lit]
  simp only [World.cell?, hblk]
  simp
/-- one more, behind what the call owns -/
theorem app_one (E : ElemOf sl el k i0 z bytes) (hk : ∀ a, (f a).length = k) (h1 : ∀ a u, u ∈ f a → u.oneCell' = true) (w : World) (base : Nat) (A : Option Addr) (c : Nat) (xs : List α) (x : α) (ty : TypeId)
    (ho : w.ownsRow base el k (.slice A xs.length c) xs.length (xs.flatMap f)) (hx : xs.length ≤ 50000) (hb : base ≤ w.heap.size) :
    ∃ A' c' w', (Builtin.append_ #[sl, sl] ty #[.slice A xs.length c, .slice (some ⟨w.heap.size, 0, none⟩) 1 1]).run Try.prog (w.alloc (.cells (f x).toArray el)) = .ok (.slice A' (xs ++ [x]).length c') w' ∧
      w'.ownsRow base el k (.slice A' (xs ++ [x]).length c') (xs ++ [x]).length ((xs ++ [x]).flatMap f) ∧ Below base w w' := by
  have hba : Below w.heap.size w (w.alloc (.cells (f x).toArray el)) := (Below.refl _ w).alloc (Nat.le_refl _) _
  obtain ⟨v1, y1, hrun, ho1, hg1, _⟩ := app_recs E hk h1 (w.alloc (.cells (f x).toArray el)) base _ xs [x] (some ⟨w.heap.size, 0, none⟩) 1 _ ty (ho.alloc _) (one_rec hk w x) (by omega) (by simp) (by simp; omega)
  obtain ⟨A1, c1, rfl, _, _⟩ := recs_own hk E.pos ho1
  exact ⟨A1, c1, y1, hrun, ho1, (hba.mono hb).grown hg1 (by simp; omega) (fun i hi => (ho.lt i hi).1)⟩
end

/-! ### edges in memory -/
def edV (e : Edg) : List Value := [.string e.1, .int .i64 e.2]
theorem edV_len : ∀ a : Edg, (edV a).length = 2 := fun _ => rfl
theorem edV_one : ∀ (a : Edg) (u : Value), u ∈ edV a → u.oneCell' = true := by
  intro a u hu
  simp [edV] at hu
  rcases hu with rfl | rfl <;> rfl
def stV (s : ByteArray) : List Value := [.string s]
theorem stV_len : ∀ a : ByteArray, (stV a).length = 1 := fun _ => rfl
theorem stV_one : ∀ (a : ByteArray) (u : Value), u ∈ stV a → u.oneCell' = true := by
  intro a u hu
  simp [stV] at hu
  subst hu
  rfl
theorem st_elem : ∃ i0, ElemOf 23 9 1 i0 (.string ByteArray.empty) 16 := mkElem Try.underlying23 (by kernel_rfl) rfl (by decide) (by decide)
theorem strs_of_recs {w : World} {B : Nat} {A : Option Addr} {l : List ByteArray} (h : Recs 1 stV w B A l) : Strs w B A l := fun i hi => by
  obtain ⟨ad, e, hlt, hc⟩ := h i hi
  refine ⟨ad, e, hlt, ?_⟩
  have h0 := hc 0 (by omega)
  rw [Nat.mul_one] at h0
  rw [show (ad.add i).add 0 = ad.add i from rfl] at h0
  rw [h0]
  simp [stV, List.getD, List.getElem?_eq_getElem hi]
theorem recs_of_strs {w : World} {B : Nat} {A : Option Addr} {l : List ByteArray} (h : Strs w B A l) : Recs 1 stV w B A l := fun i hi => by
  obtain ⟨ad, e, hlt, hc⟩ := h i hi
  refine ⟨ad, e, hlt, fun j hj => ?_⟩
  obtain rfl : j = 0 := by omega
  rw [Nat.mul_one, show (ad.add i).add 0 = ad.add i from rfl, hc]
  simp [stV, List.getD, List.getElem?_eq_getElem hi]
theorem ded_elem : ∃ i0, ElemOf 30 35 2 i0 (.agg #[.string ByteArray.empty, .int .i64 0]) 24 := mkElem Try.underlying30 (by kernel_rfl) rfl (by decide) (by decide)
/-- the slices of an argument, kept through what only makes memory -/
structure Keep (w W : World) (B : Nat) (o : Thing) (A : Option Addr) (c : Nat) (P : Option Addr) (d : Nat) : Prop where
  box : OneB w W w.heap.size 25 (objC o A c P d)
  ents : Ents W B A o.ents
  pars : Strs W B P o.parents
section
variable {w W W' : World} {B : Nat} {o : Thing} {A : Option Addr} {c : Nat} {P : Option Addr} {d : Nat}
theorem Keep.step (h : Keep w W B o A c P d) (hB : B ≤ w.heap.size) (hb : Below (w.heap.size + 1) W W') : Keep w W' B o A c P d :=
  ⟨⟨(hb.block _ (by omega)).trans h.box.a, h.box.below.trans (hb.mono (by omega))⟩, h.ents.below (hb.mono (by omega)), Strs.below h.pars (hb.mono (by omega))⟩
theorem Keep.size (h : Keep w W B o A c P d) : w.heap.size + 1 ≤ W.heap.size := h.box.a.lt
theorem keep_new (hl : Lies w B o A P) (hB : B ≤ w.heap.size) : Keep w (w.alloc (.cells (objC o A c P d) 25 (0, 0))) B o A c P d :=
  have h := one_new w 25 (objC o A c P d)
  ⟨h, hl.ents.below (h.below.mono hB), Strs.below hl.pars (h.below.mono hB)⟩

end
theorem edges_tree {o : Thing} (h : o.kind = 2) : edgesF o = o.ents.map fun e => (e.id, entKind e.mode) := by unfold edgesF; rw [if_pos h]
theorem edges_commit {o : Thing} (h : o.kind = 3) : edgesF o = (o.tree, 2) :: o.parents.map fun p => (p, 3) := by unfold edgesF; rw [if_neg (by omega), if_pos h]
theorem edges_tag {o : Thing} (h : o.kind = 4) : edgesF o = [(o.target, o.ofk)] := by unfold edgesF; rw [if_neg (by omega), if_neg (by omega), if_pos h]
theorem edges_none {o : Thing} (h : o.kind ≠ 2 ∧ o.kind ≠ 3 ∧ o.kind ≠ 4) : edgesF o = [] := by unfold edgesF; rw [if_neg h.1, if_neg h.2.1, if_neg h.2.2]
theorem take_ents {es : List Ent} {k : Nat} (h : k < es.length) : (es.map fun e => ((e.id, entKind e.mode) : Edg)).take (k + 1) = (es.map fun e => ((e.id, entKind e.mode) : Edg)).take k ++ [((es.getD k default).id, entKind (es.getD k default).mode)] := by
  rw [← List.map_take, ← List.map_take, take_snoc h, List.map_append]; rfl
theorem take_pars {ps : List ByteArray} {k : Nat} (h : k < ps.length) : (ps.map fun p => ((p, 3) : Edg)).take (k + 1) = (ps.map fun p => ((p, 3) : Edg)).take k ++ [(ps.getD k ByteArray.empty, 3)] := by
  rw [← List.map_take, ← List.map_take, take_snoc h, List.map_append]; rfl

set_option maxHeartbeats 8000000 in
set_option maxRecDepth 100000 in
theorem dOf_any (w : World) (B : Nat) (o : Thing) (A : Option Addr) (c : Nat) (P : Option Addr) (d : Nat) (hl : Lies w B o A P) (hB : B ≤ w.heap.size) (he : o.ents.length ≤ 10000) (hp : o.parents.length ≤ 10000) :
    Calls Try.prog 9 #[.agg (objC o A c P d)] w fun e w' => (∃ A2 c2, e = .returned (.slice A2 (edgesF o).length c2) ∧ w'.ownsRow w.heap.size 35 2 (.slice A2 (edgesF o).length c2) (edgesF o).length ((edgesF o).flatMap edV)) ∧ Below w.heap.size w w' := by
  obtain ⟨i0, E⟩ := ded_elem
  have HE := Lib.hid E
  have HP := Lib.hid (keep_new (c := c) (d := d) hl hB)
  clear hl E
  rcases kinds o with hk | hk | hk | hk
  · rw [edges_tree hk]
    have q2 : (o.kind == 2) = true := beq_iff_eq.2 hk
    have q3 : (o.kind == 3) = false := beq_eq_false_iff_ne.2 (by omega)
    have q4 : (o.kind == 4) = false := beq_eq_false_iff_ne.2 (by omega)
    clear hk
    have hml : (o.ents.map fun e => ((e.id, entKind e.mode) : Edg)).length = o.ents.length := List.length_map _
    have HTK := Lib.hid (fun k (h : k < o.ents.length) => take_ents h)
    generalize (o.ents.map fun e => ((e.id, entKind e.mode) : Edg)) = L at *
    have htk : ∀ k, k ≤ o.ents.length → (L.take k).length = k := fun k h => by rw [List.length_take]; omega
    have HTL := Lib.hid htk
    have HLL := Lib.hid hml
    clear htk hml
    go_enter Try.func9, Try.ntmps9
    go_wp2_with fail
    go_loopg [3, 4] o.ents.length (fun g v i wr => ∃ (k : Nat) (A2 : Option Addr) (c2 : Nat), k ≤ o.ents.length ∧ g = o.ents.length - k ∧ i = .int .i64 k ∧ v = .slice A2 k c2 ∧ Keep w wr B o A c P d ∧ wr.ownsRow (w.heap.size + 1) 35 2 v k ((L.take k).flatMap edV))
    case atStart => exact ⟨0, none, 0, Nat.zero_le _, rfl, rfl, rfl, HP.out, World.ownsRow_nil _ _ _ _⟩
    case round =>
      obtain ⟨k, A2, c2, hkl, rfl, rfl, rfl, hkp, hown⟩ := hrel
      have HP := Lib.hid hkp
      have HO := Lib.hid hown
      obtain ⟨c0, c1, c2', c3, c4, c5, c6, c7, c8, c9⟩ := hkp.box.a.ten
      clear hkp hown
      by_cases hlt : k < o.ents.length
      · have h1 : (k : Int) < o.ents.length := by omega
        have h0 : (0 : Int) ≤ k := by omega
        obtain ⟨ad, e, hB1, hc⟩ := HP.out.ents k hlt
        have m0 : wr.cell? (ad.add (k * 3)) = some (.int .i64 (o.ents.getD k default).mode) := by have := hc 0 (by omega); rwa [show (ad.add (k * 3)).add 0 = ad.add (k * 3) from rfl] at this
        have m2 : wr.cell? ⟨(ad.add (k * 3)).block, (ad.add (k * 3)).off + 2, none⟩ = some (.string (o.ents.getD k default).id) := hc 2 (by omega)
        have HS := Lib.hid (HTK.out k hlt)
        have hw1 : IntKind.i64.wrap ((k : Int) + 1) = (k : Int) + 1 := IntWalk.i64_in _ (by omega)
        generalize o.ents.getD k default = x at *
        subst e
        clear hc
        have hlen := HTL.out k hkl
        by_cases hm : x.mode = 3
        · have qm : (x.mode == 3) = true := beq_iff_eq.2 hm
          have HS := Lib.hid (show L.take (k + 1) = L.take k ++ [(x.id, 2)] from by rw [HS.out, entKind, if_pos hm])
          clear hm
          obtain ⟨A3, c3', y1, hrun, ho1, hb1⟩ := app_one HE.out edV_len edV_one wr (w.heap.size + 1) A2 c2 (L.take k) (x.id, 2) 30 (by rw [hlen]; exact HO.out) (by omega) HP.out.size
          rw [← HS.out, HTL.out (k + 1) (by omega)] at hrun ho1
          simp only [edV, hlen] at hrun
          have HRUN := Lib.hid hrun
          have HX := Lib.hid (And.intro ho1 (HP.out.step hB hb1))
          clear hrun ho1 hb1
          go_wp2_with (at_builtin; refine wpList_append_run rfl (.tmp 24) (.tmp 33) 30 30 rfl _ _ _ y1 rfl rfl HRUN.out ?_)
          go_roundg (o.ents.length - (k + 1))
          case rel => exact ⟨k + 1, A3, c3', by omega, rfl, by go_num, rfl, HX.out.2, HX.out.1⟩
          case measure => omega
        · have qm : (x.mode == 3) = false := beq_eq_false_iff_ne.2 hm
          have HS := Lib.hid (show L.take (k + 1) = L.take k ++ [(x.id, 1)] from by rw [HS.out, entKind, if_neg hm])
          clear hm
          obtain ⟨A3, c3', y1, hrun, ho1, hb1⟩ := app_one HE.out edV_len edV_one wr (w.heap.size + 1) A2 c2 (L.take k) (x.id, 1) 30 (by rw [hlen]; exact HO.out) (by omega) HP.out.size
          rw [← HS.out, HTL.out (k + 1) (by omega)] at hrun ho1
          simp only [edV, hlen] at hrun
          have HRUN := Lib.hid hrun
          have HX := Lib.hid (And.intro ho1 (HP.out.step hB hb1))
          clear hrun ho1 hb1
          go_wp2_with (at_builtin; refine wpList_append_run rfl (.tmp 24) (.tmp 33) 30 30 rfl _ _ _ y1 rfl rfl HRUN.out ?_)
          go_roundg (o.ents.length - (k + 1))
          case rel => exact ⟨k + 1, A3, c3', by omega, rfl, by go_num, rfl, HX.out.2, HX.out.1⟩
          case measure => omega
      · have h1 : ¬ (k : Int) < o.ents.length := by omega
        obtain rfl : k = o.ents.length := by omega
        have HF := Lib.hid (show L.take o.ents.length = L from List.take_of_length_le (by have := HLL.out; omega))
        go_wp2
        go_ret
        rw [HF.out] at HO
        exact ⟨⟨A2, c2, by rw [HLL.out]; rfl, by rw [HLL.out]; exact own_down HO.out (by omega)⟩, HP.out.box.below⟩
  · rw [edges_commit hk]
    have q2 : (o.kind == 2) = false := beq_eq_false_iff_ne.2 (by omega)
    have q3 : (o.kind == 3) = true := beq_iff_eq.2 hk
    have q4 : (o.kind == 4) = false := beq_eq_false_iff_ne.2 (by omega)
    clear hk
    have hml : (o.parents.map fun p => ((p, 3) : Edg)).length = o.parents.length := List.length_map _
    have HTK := Lib.hid (fun k (h : k < o.parents.length) => take_pars h)
    generalize (o.parents.map fun p => ((p, 3) : Edg)) = L at *
    have htk : ∀ k, k ≤ o.parents.length → (L.take k).length = k := fun k h => by rw [List.length_take]; omega
    have HTL := Lib.hid htk
    have HLL := Lib.hid hml
    clear htk hml
    go_enter Try.func9, Try.ntmps9
    obtain ⟨c0, c1, c2', c3, c4, c5, c6, c7, c8, c9⟩ := HP.out.box.a.ten
    obtain ⟨A0, c0', y0, hrun0, ho0, hb0⟩ := app_one HE.out edV_len edV_one _ (w.heap.size + 1) none 0 [] (o.tree, 2) 30 (World.ownsRow_nil (w.alloc (.cells (objC o A c P d) 25 (0, 0))) _ _ _) (by simp) HP.out.size
    rw [List.nil_append] at hrun0 ho0
    simp only [edV, List.length_nil, List.length_cons, Nat.zero_add, World.size_alloc] at hrun0
    simp only [List.length_nil, List.length_cons, Nat.zero_add] at ho0
    have HRUN0 := Lib.hid hrun0
    have HX0 := Lib.hid (And.intro ho0 (HP.out.step hB hb0))
    clear hrun0 ho0 hb0
    go_wp2_with (at_builtin; refine wpList_append_run rfl (.tmp 38) (.tmp 42) 30 30 rfl _ _ _ y0 rfl rfl HRUN0.out ?_)
    go_loopg [3, 6] o.parents.length (fun g v i wr => ∃ (k : Nat) (A2 : Option Addr) (c2 : Nat), k ≤ o.parents.length ∧ g = o.parents.length - k ∧ i = .int .i64 k ∧ v = .slice A2 (k + 1) c2 ∧ Keep w wr B o A c P d ∧ wr.ownsRow (w.heap.size + 1) 35 2 v (k + 1) ((((o.tree, 2) : Edg) :: L.take k).flatMap edV))
    case atStart => exact ⟨0, A0, c0', Nat.zero_le _, rfl, rfl, rfl, HX0.out.2, HX0.out.1⟩
    case round =>
      obtain ⟨k, A2, c2, hkl, rfl, rfl, rfl, hkp, hown⟩ := hrel
      have HP := Lib.hid hkp
      have HO := Lib.hid hown
      obtain ⟨c0, c1, c2', c3, c4, c5, c6, c7, c8, c9⟩ := hkp.box.a.ten
      clear hkp hown
      by_cases hlt : k < o.parents.length
      · have h1 : (k : Int) < o.parents.length := by omega
        have h0 : (0 : Int) ≤ k := by omega
        obtain ⟨ad, e, hB1, m0⟩ := HP.out.pars k hlt
        have HS := Lib.hid (HTK.out k hlt)
        have hw1 : IntKind.i64.wrap ((k : Int) + 1) = (k : Int) + 1 := IntWalk.i64_in _ (by omega)
        generalize o.parents.getD k ByteArray.empty = x at *
        subst e
        have hlen := HTL.out k hkl
        obtain ⟨A3, c3', y1, hrun, ho1, hb1⟩ := app_one HE.out edV_len edV_one wr (w.heap.size + 1) A2 c2 ((o.tree, 2) :: L.take k) (x, 3) 30 (by rw [List.length_cons, hlen]; exact HO.out) (by rw [List.length_cons]; omega) HP.out.size
        rw [List.cons_append, ← HS.out] at hrun ho1
        have hlk := HTL.out (k + 1) (by omega)
        simp only [edV, hlen, hlk, List.length_cons] at hrun
        simp only [hlk, List.length_cons] at ho1
        have HRUN := Lib.hid hrun
        have HX := Lib.hid (And.intro ho1 (HP.out.step hB hb1))
        clear hrun ho1 hb1
        go_wp2_with (at_builtin; refine wpList_append_run rfl (.tmp 51) (.tmp 58) 30 30 rfl _ _ _ y1 rfl rfl HRUN.out ?_)
        go_roundg (o.parents.length - (k + 1))
        case rel => exact ⟨k + 1, A3, c3', by omega, rfl, by go_num, rfl, HX.out.2, HX.out.1⟩
        case measure => omega
      · have h1 : ¬ (k : Int) < o.parents.length := by omega
        obtain rfl : k = o.parents.length := by omega
        have HF := Lib.hid (show L.take o.parents.length = L from List.take_of_length_le (by have := HLL.out; omega))
        go_wp2
        go_ret
        rw [HF.out] at HO
        exact ⟨⟨A2, c2, by rw [HLL.out]; rfl, by rw [HLL.out]; exact own_down HO.out (by omega)⟩, HP.out.box.below⟩
  · rw [edges_tag hk]
    have q2 : (o.kind == 2) = false := beq_eq_false_iff_ne.2 (by omega)
    have q3 : (o.kind == 3) = false := beq_eq_false_iff_ne.2 (by omega)
    have q4 : (o.kind == 4) = true := beq_iff_eq.2 hk
    clear hk
    go_enter Try.func9, Try.ntmps9
    obtain ⟨c0, c1, c2', c3, c4, c5, c6, c7, c8, c9⟩ := HP.out.box.a.ten
    obtain ⟨A0, c0', y0, hrun0, ho0, hb0⟩ := app_one HE.out edV_len edV_one _ (w.heap.size + 1) none 0 [] (o.target, o.ofk) 30 (World.ownsRow_nil (w.alloc (.cells (objC o A c P d) 25 (0, 0))) _ _ _) (by simp) HP.out.size
    rw [List.nil_append] at hrun0 ho0
    simp only [edV, List.length_nil, List.length_cons, Nat.zero_add, World.size_alloc] at hrun0
    simp only [List.length_nil, List.length_cons, Nat.zero_add] at ho0
    have HRUN0 := Lib.hid hrun0
    have HX0 := Lib.hid (And.intro ho0 (HP.out.step hB hb0))
    clear hrun0 ho0 hb0
    go_wp2_with (at_builtin; refine wpList_append_run rfl (.tmp 63) (.tmp 69) 30 30 rfl _ _ _ y0 rfl rfl HRUN0.out ?_)
    go_ret
    exact ⟨⟨A0, c0', rfl, own_down HX0.out.1 (by omega)⟩, HX0.out.2.box.below⟩
  · rw [edges_none hk]
    have q2 : (o.kind == 2) = false := beq_eq_false_iff_ne.2 hk.1
    have q3 : (o.kind == 3) = false := beq_eq_false_iff_ne.2 hk.2.1
    have q4 : (o.kind == 4) = false := beq_eq_false_iff_ne.2 hk.2.2
    clear hk
    go_enter Try.func9, Try.ntmps9
    obtain ⟨c0, c1, c2', c3, c4, c5, c6, c7, c8, c9⟩ := HP.out.box.a.ten
    go_wp2
    go_ret
    exact ⟨⟨none, 0, rfl, World.ownsRow_nil _ _ _ _⟩, HP.out.box.below⟩
end Go.Proofs.Ytlpidedijknohaa.Hq
