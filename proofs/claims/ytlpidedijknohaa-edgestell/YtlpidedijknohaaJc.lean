/-
  Layer 12, the program's side: where an object's names stand.
-/
import Derived.Test.YtlpidedijknohaaJb
import Derived.StillTailTactics
namespace Go.Proofs.Ytlpidedijknohaa.Hq
open Go.RowKit Ob Hr Hj Eg
set_option linter.unusedVariables false

/-- a place: where a name stands, and of what kind it is -/
structure Plc where
  ad : Addr
  kd : Int
instance : Inhabited Plc := ⟨⟨⟨0, 0, none⟩, 0⟩⟩
def plV (p : Plc) : List Value := [.pointer (some p.ad), .int .i64 p.kd]
theorem plV_len : ∀ a : Plc, (plV a).length = 2 := fun _ => rfl
theorem plV_one : ∀ (a : Plc) (u : Value), u ∈ plV a → u.oneCell' = true := by
  intro a u hu
  simp [plV] at hu
  rcases hu with rfl | rfl <;> rfl
theorem pl_elem : ∃ i0, ElemOf 49 54 2 i0 (.agg #[.pointer none, .int .i64 0]) 16 := mkElem Try.underlying49 (by kernel_rfl) rfl (by decide) (by decide)
def entAt (A : Option Addr) (k : Nat) : Addr := ⟨((A.getD ⟨0, 0, none⟩).add (k * 3)).block, ((A.getD ⟨0, 0, none⟩).add (k * 3)).off + 2, none⟩
def parAt (P : Option Addr) (k : Nat) : Addr := (P.getD ⟨0, 0, none⟩).add k
def entPl (A : Option Addr) (es : List Ent) : List Plc := (List.range es.length).map fun k => ⟨entAt A k, entKind (es.getD k default).mode⟩
def parPl (P : Option Addr) (n : Nat) : List Plc := (List.range n).map fun k => ⟨parAt P k, 3⟩
def placesF (g : Nat) (A P : Option Addr) (o : Thing) : List Plc :=
  if o.kind = 2 then entPl A o.ents
  else if o.kind = 3 then ⟨⟨g, 3, none⟩, 2⟩ :: parPl P o.parents.length
  else if o.kind = 4 then [⟨⟨g, 5, none⟩, o.ofk⟩] else []
theorem places_tree {g : Nat} {A P : Option Addr} {o : Thing} (h : o.kind = 2) : placesF g A P o = entPl A o.ents := by unfold placesF; rw [if_pos h]
theorem places_commit {g : Nat} {A P : Option Addr} {o : Thing} (h : o.kind = 3) : placesF g A P o = ⟨⟨g, 3, none⟩, 2⟩ :: parPl P o.parents.length := by unfold placesF; rw [if_neg (by omega), if_pos h]
theorem places_tag {g : Nat} {A P : Option Addr} {o : Thing} (h : o.kind = 4) : placesF g A P o = [⟨⟨g, 5, none⟩, o.ofk⟩] := by unfold placesF; rw [if_neg (by omega), if_neg (by omega), if_pos h]
theorem places_none {g : Nat} {A P : Option Addr} {o : Thing} (h : o.kind ≠ 2 ∧ o.kind ≠ 3 ∧ o.kind ≠ 4) : placesF g A P o = [] := by unfold placesF; rw [if_neg h.1, if_neg h.2.1, if_neg h.2.2]
theorem entPl_take {A : Option Addr} {es : List Ent} {k : Nat} (h : k < es.length) : (entPl A es).take (k + 1) = (entPl A es).take k ++ [⟨entAt A k, entKind (es.getD k default).mode⟩] := by
  have hl : k < (entPl A es).length := by simpa [entPl] using h
  rw [take_snoc hl]
  simp [entPl, List.getD, h]
theorem parPl_take {P : Option Addr} {n k : Nat} (h : k < n) : (parPl P n).take (k + 1) = (parPl P n).take k ++ [⟨parAt P k, 3⟩] := by
  have hl : k < (parPl P n).length := by simpa [parPl] using h
  rw [take_snoc hl]
  simp [parPl, List.getD, h]
theorem placesF_len (g : Nat) (A P : Option Addr) (o : Thing) : (placesF g A P o).length = (edgesF o).length := by
  rcases kinds o with h | h | h | h
  · rw [places_tree h, edges_tree h]; simp [entPl]
  · rw [places_commit h, edges_commit h]; simp [parPl]
  · rw [places_tag h, edges_tag h]; rfl
  · rw [places_none h, edges_none h]; rfl

/-- what has been gathered: the slice in its box, its row behind the box -/
def Acc (w W : World) (l : List Plc) : Prop :=
  ∃ A2 c2, BoxAt W w.heap.size 49 #[.slice A2 l.length c2] ∧ W.ownsRow (w.heap.size + 1) 54 2 (.slice A2 l.length c2) l.length (l.flatMap plV) ∧ Below w.heap.size w W
theorem Acc.step {w W W' : World} {l : List Plc} (h : Acc w W l) (hb : Below W.heap.size W W') : Acc w W' l := by
  obtain ⟨A2, c2, h1, h2, h3⟩ := h
  exact ⟨A2, c2, h1.step hb, own_step h2 hb, h3.trans (hb.mono h3.size)⟩
theorem acc_new (w : World) : Acc w (w.alloc (.cells #[.slice none 0 0] 49 (0, 0))) [] :=
  ⟨none, 0, box_new w _ _, World.ownsRow_nil _ _ _ _, (Below.refl _ w).alloc (Nat.le_refl _) _⟩
theorem Acc.lt {w W : World} {l : List Plc} (h : Acc w W l) : w.heap.size < W.heap.size := h.choose_spec.choose_spec.1.lt
theorem Acc.below {w W : World} {l : List Plc} (h : Acc w W l) : Below w.heap.size w W := h.choose_spec.choose_spec.2.2

set_option maxHeartbeats 2000000 in
set_option maxRecDepth 100000 in
theorem add_any (w W : World) (l : List Plc) (ad : Addr) (k : Int) (h : Acc w W l) (hl : l.length ≤ 20000) :
    Calls Try.prog 32 #[.pointer (some ad), .int .i64 k, .pointer (some ⟨w.heap.size, 0, none⟩)] W fun e w' => e = .returned (.tuple #[]) ∧ Acc w w' (l ++ [⟨ad, k⟩]) ∧ Below w.heap.size W w' := by
  obtain ⟨i0, E⟩ := pl_elem
  obtain ⟨A2, c2, hb, ho, hw⟩ := h
  obtain ⟨A3, c3, y1, hrun, ho1, hb1⟩ := app_one E plV_len plV_one W (w.heap.size + 1) A2 c2 l ⟨ad, k⟩ 49 ho (by omega) hb.lt
  have hx1 : BoxAt y1 w.heap.size 49 #[.slice A2 l.length c2] := (hb1.block _ (by omega)).trans hb
  have c0 := hb.cell 0
  have f0 := hx1.free 0
  have k0 := hx1.cell 0
  have HRUN := Lib.hid hrun
  have HX := Lib.hid (And.intro ho1 (And.intro hx1 (And.intro hb1 hw)))
  clear hrun ho1 hx1 hb1 hw hb ho E
  go_enter Try.func32, Try.ntmps32
  go_wp2_with (at_builtin; refine wpList_append_run rfl (.tmp 5) (.tmp 9) 49 49 rfl _ _ _ y1 rfl rfl HRUN.out ?_)
  go_end0
  have hs : Below w.heap.size y1 (y1.setCell ⟨w.heap.size, 0, none⟩ (.slice A3 (l ++ [(⟨ad, k⟩ : Plc)]).length c3)) := (Below.refl _ y1).setCell (p := ⟨w.heap.size, 0, none⟩) (Nat.le_refl _) _
  have hB : Below w.heap.size W (y1.setCell ⟨w.heap.size, 0, none⟩ (.slice A3 (l ++ [(⟨ad, k⟩ : Plc)]).length c3)) := (HX.out.2.2.1.mono (by omega)).trans hs
  have hel : l.length + 1 = (l ++ [(⟨ad, k⟩ : Plc)]).length := by simp
  rw [hel]
  refine ⟨rfl, ⟨A3, c3, Hg.heap_setCell_cells HX.out.2.1 0 _, ⟨HX.out.1.1, HX.out.1.2.imp (fun h0 => h0) fun ⟨g', cap, cur, hv, h1, h2, hr⟩ => ⟨g', cap, cur, hv, h1, (Below.heap_setCell _ _ _ _ (by show g' ≠ w.heap.size; omega)).trans h2, hr⟩⟩, HX.out.2.2.2.trans hB⟩, hB⟩

set_option maxHeartbeats 1000000 in
set_option maxRecDepth 100000 in
theorem entryKind_any (m : Int) (w : World) : Calls Try.prog 33 #[.int .i64 m] w fun e w' => e = .returned (.int .i64 (entKind m)) ∧ w' = w := by
  by_cases hm : m = 3
  · have q : (m == 3) = true := beq_iff_eq.2 hm
    have HE := Lib.hid (show entKind m = 2 from by rw [entKind, if_pos hm])
    clear hm
    go_enter Try.func33, Try.ntmps33
    go_wp2
    go_ret
    exact ⟨by rw [HE.out]; rfl, rfl⟩
  · have q : (m == 3) = false := beq_eq_false_iff_ne.2 hm
    have HE := Lib.hid (show entKind m = 1 from by rw [entKind, if_neg hm])
    clear hm
    go_enter Try.func33, Try.ntmps33
    go_wp2
    go_ret
    exact ⟨by rw [HE.out]; rfl, rfl⟩

set_option maxHeartbeats 8000000 in
set_option maxRecDepth 100000 in
theorem places_any (w : World) (g : Nat) (B : Nat) (o : Thing) (A : Option Addr) (c : Nat) (P : Option Addr) (d : Nat) (hx : BoxAt w g 25 (objC o A c P d)) (hl : Lies w B o A P) (hB : B ≤ w.heap.size) (he : o.ents.length ≤ 10000) (hp : o.parents.length ≤ 10000) :
    Calls Try.prog 23 #[.pointer (some ⟨g, 0, none⟩)] w fun e w' => (∃ A2 c2, e = .returned (.slice A2 (edgesF o).length c2) ∧ w'.ownsRow w.heap.size 54 2 (.slice A2 (edgesF o).length c2) (edgesF o).length ((placesF g A P o).flatMap plV)) ∧ Below w.heap.size w w' := by
  have hmf : ∀ (fn : Fn) (first cap : Array Value) (w : World), (Instr.makeFunc fn first cap).run Try.prog w = .ok (.func fn first cap) w := fun _ _ _ _ => rfl
  have HX := Lib.hid hx
  have HL := Lib.hid hl
  have HA := Lib.hid (acc_new w)
  have HAD := Lib.hid (fun W l ad k (h : Acc w W l) (hl : l.length ≤ 20000) => add_any w W l ad k h hl)
  have HEK := Lib.hid (fun W m => entryKind_any m W)
  rw [← placesF_len g A P o]
  clear hx hl
  rcases kinds o with hk | hk | hk | hk
  · rw [places_tree hk]
    have q2 : (o.kind == 2) = true := beq_iff_eq.2 hk
    have q3 : (o.kind == 3) = false := beq_eq_false_iff_ne.2 (by omega)
    have q4 : (o.kind == 4) = false := beq_eq_false_iff_ne.2 (by omega)
    clear hk
    have hml : (entPl A o.ents).length = o.ents.length := by simp [entPl]
    have HTK := Lib.hid (fun k (h : k < o.ents.length) => entPl_take (A := A) h)
    generalize hLg : entPl A o.ents = L at *
    clear hLg
    have htk : ∀ k, k ≤ o.ents.length → (L.take k).length = k := fun k h => by rw [List.length_take]; omega
    have HTL := Lib.hid htk
    have HLL := Lib.hid hml
    clear htk hml
    go_enter Try.func23, Try.ntmps23
    obtain ⟨c0, c1, c2', c3, c4, c5, c6, c7, c8, c9⟩ := (HX.out.step HA.out.below).ten
    go_wp2_with fail
    go_loopg [20] o.ents.length (fun g' i wr => ∃ (k : Nat), k ≤ o.ents.length ∧ g' = o.ents.length - k ∧ i = .int .i64 k ∧ Acc w wr (L.take k))
    case atStart => exact ⟨0, Nat.zero_le _, rfl, rfl, by rw [List.take_zero]; exact HA.out⟩
    case round =>
      obtain ⟨k, hkl, rfl, rfl, hacc⟩ := hrel
      have HA := Lib.hid hacc
      clear hacc
      obtain ⟨c0, c1, c2', c3, c4, c5, c6, c7, c8, c9⟩ := (HX.out.step HA.out.below).ten
      by_cases hlt : k < o.ents.length
      · have h1 : (k : Int) < o.ents.length := by omega
        have h0 : (0 : Int) ≤ k := by omega
        obtain ⟨ad, e, hB1, hc⟩ := (HL.out.ents.below (HA.out.below.mono hB)) k hlt
        have m0 : wr.cell? (ad.add (k * 3)) = some (.int .i64 (o.ents.getD k default).mode) := by have := hc 0 (by omega); rwa [show (ad.add (k * 3)).add 0 = ad.add (k * 3) from rfl] at this
        have HS := Lib.hid (HTK.out k hlt)
        have hat : entAt A k = ⟨(ad.add (k * 3)).block, (ad.add (k * 3)).off + 2, none⟩ := by rw [e]; rfl
        rw [hat] at HS
        generalize o.ents.getD k default = x at *
        subst e
        clear hc hat
        have hlen := HTL.out k hkl
        have hw1 : IntKind.i64.wrap ((k : Int) + 1) = (k : Int) + 1 := IntWalk.i64_in _ (by omega)
        have HA := Lib.hid (HA.out.step (Below.refl _ wr).drew)
        go_wp2_with fail
        refine wp_region_still_tail 9 (by kernel_rfl) (by kernel_rfl) ?_
        simp only [List.take_succ_cons, List.take_zero, List.drop_succ_cons, List.drop_zero]
        change wpStill _ _ (World.drew _) (fun a' => wpList _ _ _ _ a' (World.drew _)) _ _
        iterate 8 still_step
        still_call (HEK.out _ x.mode)
        refine wpStill_nil ?_
        go_wp2_with (go_at_call 32; refine (HAD.out _ _ _ _ HA.out (by omega)).mono ?_; rintro r w2 ⟨rfl, ha2, hb2⟩)
        rw [← HS.out] at ha2
        go_roundg (o.ents.length - (k + 1))
        case rel => exact ⟨k + 1, by omega, rfl, by go_num, ha2⟩
        case measure => omega
      · have h1 : ¬ (k : Int) < o.ents.length := by omega
        obtain rfl : k = o.ents.length := by omega
        have HF := Lib.hid (show L.take o.ents.length = L from List.take_of_length_le (by have := HLL.out; omega))
        rw [HF.out] at HA
        obtain ⟨A2, c2, hb, ho, hw⟩ := HA.out
        have HO := Lib.hid (And.intro ho hw)
        have o0 := hb.cell 0
        clear hb ho hw
        go_wp2
        go_ret
        exact ⟨⟨A2, c2, rfl, own_down HO.out.1 (by omega)⟩, HO.out.2⟩
  · rw [places_commit hk]
    have q2 : (o.kind == 2) = false := beq_eq_false_iff_ne.2 (by omega)
    have q3 : (o.kind == 3) = true := beq_iff_eq.2 hk
    have q4 : (o.kind == 4) = false := beq_eq_false_iff_ne.2 (by omega)
    clear hk
    have hml : (parPl P o.parents.length).length = o.parents.length := by simp [parPl]
    have HTK := Lib.hid (fun k (h : k < o.parents.length) => parPl_take (P := P) h)
    generalize hLg : parPl P o.parents.length = L at *
    clear hLg
    have htk : ∀ k, k ≤ o.parents.length → (L.take k).length = k := fun k h => by rw [List.length_take]; omega
    have HTL := Lib.hid htk
    have HLL := Lib.hid hml
    clear htk hml
    go_enter Try.func23, Try.ntmps23
    obtain ⟨c0, c1, c2', c3, c4, c5, c6, c7, c8, c9⟩ := (HX.out.step HA.out.below).ten
    go_wp2_with (go_at_call 32; refine (HAD.out _ _ ⟨g, 3, none⟩ 2 HA.out (by simp)).mono ?_; rintro r w2 ⟨rfl, ha2, hb2⟩; have HA := Lib.hid ha2; clear ha2 hb2; obtain ⟨c0, c1, c2', c3, c4, c5, c6, c7, c8, c9⟩ := (HX.out.step HA.out.below).ten)
    go_loopg [52] o.parents.length (fun g' i wr => ∃ (k : Nat), k ≤ o.parents.length ∧ g' = o.parents.length - k ∧ i = .int .i64 k ∧ Acc w wr (⟨⟨g, 3, none⟩, 2⟩ :: L.take k))
    case atStart => exact ⟨0, Nat.zero_le _, rfl, rfl, by rw [List.take_zero]; exact HA.out⟩
    case round =>
      obtain ⟨k, hkl, rfl, rfl, hacc⟩ := hrel
      have HA := Lib.hid hacc
      clear hacc
      obtain ⟨c0, c1, c2', c3, c4, c5, c6, c7, c8, c9⟩ := (HX.out.step HA.out.below).ten
      by_cases hlt : k < o.parents.length
      · have h1 : (k : Int) < o.parents.length := by omega
        have h0 : (0 : Int) ≤ k := by omega
        obtain ⟨ad, e, hB1, m0⟩ := (HL.out.pars.below (HA.out.below.mono hB)) k hlt
        have HS := Lib.hid (HTK.out k hlt)
        have hat : parAt P k = ad.add k := by rw [e]; rfl
        rw [hat] at HS
        clear m0 hat
        subst e
        have hlen := HTL.out k hkl
        have hw1 : IntKind.i64.wrap ((k : Int) + 1) = (k : Int) + 1 := IntWalk.i64_in _ (by omega)
        go_wp2_with (go_at_call 32; refine (HAD.out _ _ _ _ HA.out (by rw [List.length_cons]; omega)).mono ?_; rintro r w2 ⟨rfl, ha2, hb2⟩)
        rw [List.cons_append, ← HS.out] at ha2
        go_roundg (o.parents.length - (k + 1))
        case rel => exact ⟨k + 1, by omega, rfl, by go_num, ha2⟩
        case measure => omega
      · have h1 : ¬ (k : Int) < o.parents.length := by omega
        obtain rfl : k = o.parents.length := by omega
        have HF := Lib.hid (show L.take o.parents.length = L from List.take_of_length_le (by have := HLL.out; omega))
        rw [HF.out] at HA
        obtain ⟨A2, c2, hb, ho, hw⟩ := HA.out
        have HO := Lib.hid (And.intro ho hw)
        have o0 := hb.cell 0
        clear hb ho hw
        go_wp2
        go_ret
        exact ⟨⟨A2, c2, rfl, own_down HO.out.1 (by omega)⟩, HO.out.2⟩
  · rw [places_tag hk]
    have q2 : (o.kind == 2) = false := beq_eq_false_iff_ne.2 (by omega)
    have q3 : (o.kind == 3) = false := beq_eq_false_iff_ne.2 (by omega)
    have q4 : (o.kind == 4) = true := beq_iff_eq.2 hk
    clear hk
    go_enter Try.func23, Try.ntmps23
    obtain ⟨c0, c1, c2', c3, c4, c5, c6, c7, c8, c9⟩ := (HX.out.step HA.out.below).ten
    go_wp2_with fail
    have HA := Lib.hid (HA.out.step (Below.refl _ _).drew)
    refine wp_region_still_tail 8 (by kernel_rfl) (by kernel_rfl) ?_
    simp only [List.take_succ_cons, List.take_zero, List.drop_succ_cons, List.drop_zero]
    change wpStill _ _ (World.drew _) (fun a' => wpList _ _ _ _ a' (World.drew _)) _ _
    iterate 8 still_step
    refine wpStill_nil ?_
    go_wp2_with (go_at_call 32; refine (HAD.out _ _ ⟨g, 5, none⟩ o.ofk HA.out (by simp)).mono ?_; rintro r w2 ⟨rfl, ha2, hb2⟩; have HA := Lib.hid ha2; obtain ⟨A2, c2, hb, ho, hw⟩ := ha2; have HO := Lib.hid (And.intro ho hw); have o0 := hb.cell 0; clear hb ho hw hb2)
    go_ret
    exact ⟨⟨A2, c2, rfl, own_down HO.out.1 (by omega)⟩, HO.out.2⟩
  · rw [places_none hk]
    have q2 : (o.kind == 2) = false := beq_eq_false_iff_ne.2 hk.1
    have q3 : (o.kind == 3) = false := beq_eq_false_iff_ne.2 hk.2.1
    have q4 : (o.kind == 4) = false := beq_eq_false_iff_ne.2 hk.2.2
    clear hk
    go_enter Try.func23, Try.ntmps23
    obtain ⟨c0, c1, c2', c3, c4, c5, c6, c7, c8, c9⟩ := (HX.out.step HA.out.below).ten
    obtain ⟨A2, c2, hb, ho, hw⟩ := HA.out
    have HO := Lib.hid (And.intro ho hw)
    have o0 := hb.cell 0
    clear hb ho hw
    go_wp2
    go_ret
    exact ⟨⟨A2, c2, rfl, own_down HO.out.1 (by omega)⟩, HO.out.2⟩
end Go.Proofs.Ytlpidedijknohaa.Hq
