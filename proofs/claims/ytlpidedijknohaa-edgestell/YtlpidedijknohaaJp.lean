/-
  Layer 12: the document's With.
-/
import Derived.Test.YtlpidedijknohaaJj
namespace Go.Proofs.Ytlpidedijknohaa.Hq
open Go.RowKit Ob Hr Hj Eg
set_option linter.unusedVariables false

/-- what With answers, out of its box -/
structure WZ (w W : World) (o : Thing) (A : Option Addr) (c : Nat) (P : Option Addr) (d : Nat) : Prop where
  box : BoxAt W w.heap.size 25 (objC o A c P d)
  res : BoxAt W (w.heap.size + 1) 25 (objC zero none 0 none 0)
  ents : ∀ W', (∀ g, g ≠ w.heap.size + 1 → W'.heap[g]? = W.heap[g]?) → Ents W' W.heap.size A o.ents
  pars : ∀ W', (∀ g, g ≠ w.heap.size + 1 → W'.heap[g]? = W.heap[g]?) → Strs W' W.heap.size P o.parents
  below : Below w.heap.size w W
theorem ents_far {W W' : World} {B g : Nat} {A : Option Addr} {l : List Ent} (h : Ents W B A l) (hB : B ≤ g) (hk : ∀ k, k ≠ g → W'.heap[k]? = W.heap[k]?) : Ents W' B A l := fun i hi => by
  obtain ⟨ad, e, hlt, hc⟩ := h i hi
  refine ⟨ad, e, hlt, fun j hj => ?_⟩
  rw [← hc j hj]
  exact World.cell?_of_block (hk _ (by rw [block_of_add, block_of_add]; omega))
theorem strs_far {W W' : World} {B g : Nat} {A : Option Addr} {l : List ByteArray} (h : Strs W B A l) (hB : B ≤ g) (hk : ∀ k, k ≠ g → W'.heap[k]? = W.heap[k]?) : Strs W' B A l := fun i hi => by
  obtain ⟨ad, e, hlt, hc⟩ := h i hi
  refine ⟨ad, e, hlt, ?_⟩
  rw [← hc]
  exact World.cell?_of_block (hk _ (by rw [block_of_add]; omega))
theorem zip_take {es : List Ent} {l : List ByteArray} {k : Nat} (hl : l.length = es.length) (hk : k < es.length) : (List.zipWith reId es l).take (k + 1) = (List.zipWith reId es l).take k ++ [reId (es.getD k default) (l.getD k ByteArray.empty)] := by
  have hz : k < (List.zipWith reId es l).length := by rw [zip_len hl]; exact hk
  rw [take_snoc hz]
  simp [List.getD, List.getElem?_eq_getElem hk, List.getElem?_eq_getElem (show k < l.length by omega), List.getElem?_eq_getElem hz]

theorem ten_cells {w : World} {g t : Nat} {v0 v1 v2 v3 v4 v5 v6 v7 v8 v9 : Value} (h : BoxAt w g t #[v0, v1, v2, v3, v4, v5, v6, v7, v8, v9]) : w.cell? ⟨g, 0, none⟩ = some v0 ∧ w.cell? ⟨g, 1, none⟩ = some v1 ∧ w.cell? ⟨g, 2, none⟩ = some v2 ∧ w.cell? ⟨g, 3, none⟩ = some v3 ∧ w.cell? ⟨g, 4, none⟩ = some v4 ∧ w.cell? ⟨g, 5, none⟩ = some v5 ∧ w.cell? ⟨g, 6, none⟩ = some v6 ∧ w.cell? ⟨g, 7, none⟩ = some v7 ∧ w.cell? ⟨g, 8, none⟩ = some v8 ∧ w.cell? ⟨g, 9, none⟩ = some v9 :=
  ⟨h.cell 0, h.cell 1, h.cell 2, h.cell 3, h.cell 4, h.cell 5, h.cell 6, h.cell 7, h.cell 8, h.cell 9⟩
theorem str_from1 {W : World} {B n c : Nat} {A : Option Addr} {l : List ByteArray} (h : Strs W B A l) (hn : l.length = n + 1) (hc : n + 1 ≤ c) : ∃ Ad cd, (∀ V : World, (Instr.slice 23 (.slice A (n + 1) c) (some (.int .i64 1)) none none).run Try.prog V = .ok (.slice Ad n cd) V) ∧ Recs 1 stV W B Ad (l.drop 1) := by
  obtain ⟨i0, E⟩ := st_elem
  have hr := recs_of_strs h
  have hu : Try.prog.underlying 23 = some (.slice (Try.prog.elem 23)) := by rw [E.und]; simp [Program.elem, E.und]
  have he : Try.prog.elem 23 = 9 := by simp [Program.elem, E.und]
  have hsz : ∀ V : World, (sizeOf 9).run Try.prog V = .ok 1 V := fun V => by simp [sizeOf, typeInfo, E.info, E.size]
  obtain ⟨ad, e, _⟩ := h 0 (by omega)
  subst e
  refine ⟨(if c = 1 then some ad else some (ad.add (1 * 1))), c - 1, fun V => ?_, ?_⟩
  · rw [run_slice_l V _ _ _ _ hu .i64 (1 : Int) (by omega) (by omega), he, hsz]
    simp [Result.andThen, sliced]
  · by_cases hck : c = 1
    · have h0 : l.drop 1 = [] := List.drop_eq_nil_of_le (by omega)
      rw [h0]; exact recs_nil _ _ _
    · rw [if_neg hck]
      exact hr.drop 1

/-- what With answers -/
def WithPost (w : World) (o : Thing) (l : List ByteArray) (e : Ending) (w' : World) : Prop := (∃ A' c' P' d', e = .returned (.agg (objC (withF o l) A' c' P' d')) ∧ Lies w' w'.heap.size (withF o l) A' P') ∧ Below w.heap.size w w'

set_option maxHeartbeats 16000000 in
set_option maxRecDepth 100000 in
theorem dWith_any (w : World) (o : Thing) (A : Option Addr) (c : Nat) (P : Option Addr) (d : Nat) (Al : Option Addr) (cl : Nat) (l : List ByteArray) (hl : Lies w w.heap.size o A P) (hs : Strs w w.heap.size Al l) (hll : l.length = (edgesF o).length) (hcl : l.length ≤ cl) (he : o.ents.length ≤ 10000) (hp : o.parents.length ≤ 10000) :
    Calls Try.prog 16 #[.agg (objC o A c P d), .slice Al l.length cl] w (WithPost w o l) := by
  obtain ⟨i0, E⟩ := ent_elem
  have HE := Lib.hid E
  obtain ⟨i1, E1⟩ := st_elem
  have HE1 := Lib.hid E1
  have HP := Lib.hid (show Pre w ((w.alloc (.cells (objC o A c P d) 25 (0, 0))).alloc (.cells #[.int .i64 0, .string ⟨#[]⟩, .slice none 0 0, .string ⟨#[]⟩, .slice none 0 0, .string ⟨#[]⟩, .int .i64 0, .string ⟨#[]⟩, .string ⟨#[]⟩, .int .i64 0] 25 (0, 0))) o A c P d from ⟨(two_new w _ _ _ _).a, (two_new w _ _ _ _).b, hl.below (two_new w 25 25 (objC o A c P d) (objC zero none 0 none 0)).below, (two_new w _ _ _ _).below⟩)
  have HS := Lib.hid hs
  have KEY := Lib.hid (fun (W : World) (tmps : Array Value) (o' : Thing) (A' : Option Addr) (c' : Nat) (P' : Option Addr) (d' es ps : Nat) (ho : withF o l = o') (hZ : WZ w W o' A' c' P' d') (hes : o'.ents.length = es) (hps : o'.parents.length = ps) (hp : tmps.getD 4 undef = .pointer (some ⟨w.heap.size + 1, 0, none⟩)) =>
    (show bodyPost Try.prog Try.f16 (WithPost w o l) Exit.ret ⟨tmps, []⟩ ((((((((((W.setCell ⟨w.heap.size + 1, 0, none⟩ (.int .i64 o'.kind)).setCell ⟨w.heap.size + 1, 1, none⟩ (.string o'.text)).setCell ⟨w.heap.size + 1, 2, none⟩ (.slice A' es c')).setCell ⟨w.heap.size + 1, 3, none⟩ (.string o'.tree)).setCell ⟨w.heap.size + 1, 4, none⟩ (.slice P' ps d')).setCell ⟨w.heap.size + 1, 5, none⟩ (.string o'.target)).setCell ⟨w.heap.size + 1, 6, none⟩ (.int .i64 o'.ofk)).setCell ⟨w.heap.size + 1, 7, none⟩ (.string o'.name)).setCell ⟨w.heap.size + 1, 8, none⟩ (.string o'.who)).setCell ⟨w.heap.size + 1, 9, none⟩ (.int .i64 o'.time)) from by
        subst hes hps
        have hb := ten_below W (w.heap.size + 1) w.heap.size (by omega) (.int .i64 o'.kind) (.string o'.text) (.slice A' o'.ents.length c') (.string o'.tree) (.slice P' o'.parents.length d') (.string o'.target) (.int .i64 o'.ofk) (.string o'.name) (.string o'.who) (.int .i64 o'.time)
        have hk := fun g hg => ten_kept W (w.heap.size + 1) g hg (.int .i64 o'.kind) (.string o'.text) (.slice A' o'.ents.length c') (.string o'.tree) (.slice P' o'.parents.length d') (.string o'.target) (.int .i64 o'.ofk) (.string o'.name) (.string o'.who) (.int .i64 o'.time)
        exact bodyPost_ret (ob_ret (p := 4) Try.results16 tmps _ (w.heap.size + 1) o' A' c' P' d' hp (ten_set rfl _ _ _ _ _ _ _ _ _ _ hZ.res)) rfl ⟨⟨A', c', P', d', by rw [ho], by rw [ho]; exact ⟨(hZ.ents _ hk).mono (by simp [World.setCell]), strs_mono (hZ.pars _ hk) (by simp [World.setCell])⟩⟩, hZ.below.trans hb⟩))
  clear hl hs E E1
  go_enter Try.func16, Try.ntmps16
  go_upto_region 2 with fail
  generalize (w.alloc (.cells (objC o A c P d) 25 (0, 0))).alloc (.cells #[.int .i64 0, .string ⟨#[]⟩, .slice none 0 0, .string ⟨#[]⟩, .slice none 0 0, .string ⟨#[]⟩, .int .i64 0, .string ⟨#[]⟩, .string ⟨#[]⟩, .int .i64 0] 25 (0, 0)) = W1 at *
  obtain ⟨c0, c1, c2, c3, c4, c5, c6, c7, c8, c9⟩ := HP.out.box.ten
  have r0 := HP.out.res
  obtain ⟨z0, z1, z2, z3, z4, z5, z6, z7, z8, z9⟩ := ten_cells (show BoxAt W1 (w.heap.size + 1) 25 #[.int .i64 0, .string ⟨#[]⟩, .slice none 0 0, .string ⟨#[]⟩, .slice none 0 0, .string ⟨#[]⟩, .int .i64 0, .string ⟨#[]⟩, .string ⟨#[]⟩, .int .i64 0] from r0)
  have zf := fun i => r0.free i
  clear r0
  rcases kinds o with hk | hk | hk | hk
  · have ho := with_tree hk l
    rw [edges_tree hk, List.length_map] at hll
    have q2 : (o.kind == 2) = true := beq_iff_eq.2 hk
    have q3 : (o.kind == 3) = false := beq_eq_false_iff_ne.2 (by omega)
    have q4 : (o.kind == 4) = false := beq_eq_false_iff_ne.2 (by omega)
    clear hk
    have hml := zip_len hll
    have HTK := Lib.hid (fun k (h : k < o.ents.length) => zip_take hll h)
    generalize hLg : List.zipWith reId o.ents l = L at *
    clear hLg
    have HTL := Lib.hid (show ∀ k, k ≤ o.ents.length → (L.take k).length = k from fun k h => by rw [List.length_take]; omega)
    have HLL := Lib.hid hml
    have HO := Lib.hid ho
    have HLN := Lib.hid hll
    rw [hll]
    clear hml ho hll z0 z1 z2 z3 z4 z5 z6 z7 z8 z9 zf
    go_wp2_with fail
    go_loopg [5, 6, 7] o.ents.length (fun g at_ v i wr => ∃ (k : Nat) (A3 : Option Addr) (c3 : Nat), k ≤ o.ents.length ∧ g = o.ents.length - k ∧ at_ = .int .i64 k ∧ i = .int .i64 k ∧ v = .slice A3 k c3 ∧ Pre w wr o A c P d ∧ wr.ownsRow (w.heap.size + 2) 46 3 (.slice A3 k c3) k ((L.take k).flatMap entV))
    case atStart => exact ⟨0, none, 0, Nat.zero_le _, rfl, rfl, rfl, rfl, HP.out, World.ownsRow_nil _ _ _ _⟩
    case round =>
      obtain ⟨k, A3, c3', hkl, rfl, rfl, rfl, rfl, hpre, hown⟩ := hrel
      have HP := Lib.hid hpre
      have HR := Lib.hid hown
      obtain ⟨c0, c1, c2, c3, c4, c5, c6, c7, c8, c9⟩ := hpre.box.ten
      have hwz : w.heap.size + 2 ≤ wr.heap.size := hpre.res.lt
      clear hpre hown
      by_cases hlt : k < o.ents.length
      · have h1 : (k : Int) < o.ents.length := by omega
        have h0 : (0 : Int) ≤ k := by omega
        have hw1 : IntKind.i64.wrap ((k : Int) + 1) = (k : Int) + 1 := IntWalk.i64_in _ (by omega)
        obtain ⟨ad, e, hB1, hc⟩ := HP.out.lies.ents k hlt
        have m0 : wr.cell? (ad.add (k * 3)) = some (.int .i64 (o.ents.getD k default).mode) := by have := hc 0 (by omega); rwa [show (ad.add (k * 3)).add 0 = ad.add (k * 3) from rfl] at this
        have m1 : wr.cell? ⟨(ad.add (k * 3)).block, (ad.add (k * 3)).off + 1, none⟩ = some (.string (o.ents.getD k default).name) := hc 1 (by omega)
        have m2 : wr.cell? ⟨(ad.add (k * 3)).block, (ad.add (k * 3)).off + 2, none⟩ = some (.string (o.ents.getD k default).id) := hc 2 (by omega)
        have HSK := Lib.hid (HTK.out k hlt)
        have hlen := HTL.out k hkl
        have hlk := HTL.out (k + 1) hlt
        obtain ⟨al, el, hBl, n0⟩ := (HS.out.below HP.out.below) k (by have := HLN.out; omega)
        generalize l.getD k ByteArray.empty = y at *
        generalize o.ents.getD k default = x at *
        obtain ⟨xm, xn, xi⟩ := x
        simp only [reId] at m0 m1 m2 HSK
        have hbx := box_new wr 46 #[.int .i64 xm, .string xn, .string xi]
        have hba : Below wr.heap.size wr (wr.alloc (.cells #[.int .i64 xm, .string xn, .string xi] 46 (0, 0))) := (Below.refl _ wr).alloc (Nat.le_refl _) _
        have k2 := hbx.cell 2
        have f2 := hbx.free 2
        have n0' : (wr.alloc (.cells #[.int .i64 xm, .string xn, .string xi] 46 (0, 0))).cell? (al.add k) = some (.string y) := (hba.cell (World.block_lt_of_cell? _ _ n0)).trans n0
        have HB2 := Lib.hid (box_new wr 46 #[.int .i64 xm, .string xn, .string y])
        have hb2 : Below wr.heap.size wr (wr.alloc (.cells #[.int .i64 xm, .string xn, .string y] 46 (0, 0))) := (Below.refl _ wr).alloc (Nat.le_refl _) _
        have HP := Lib.hid (HP.out.step hb2)
        have HR := Lib.hid (own_step HR.out hb2)
        subst e
        clear hc hbx hba hb2
        have HWZ := Lib.hid (show w.heap.size + 2 ≤ (wr.alloc (.cells #[.int .i64 xm, .string xn, .string y] 46 (0, 0))).heap.size from by have := HB2.out.lt; omega)
        subst el
        go_upto_region 9 with fail
        generalize wr.alloc (.cells #[.int .i64 xm, .string xn, .string y] 46 (0, 0)) = W2 at *
        generalize wr.heap.size = gx at *
        have k0 := HB2.out.cell 0
        have k1 := HB2.out.cell 1
        have k2 := HB2.out.cell 2
        obtain ⟨A4, c4', y1, hrun, ho1, hb1⟩ := app_one HE.out ent_len ent_one W2 (w.heap.size + 2) A3 c3' (L.take k) ⟨xm, xn, y⟩ 22 (by rw [hlen]; exact HR.out) (by omega) HWZ.out
        rw [← HSK.out, hlk] at hrun ho1
        simp only [entV, hlen] at hrun
        have HRUN := Lib.hid hrun
        have HX := Lib.hid (And.intro ho1 (show Pre w y1 o (some ad) c P d from ⟨(hb1.block _ (by omega)).trans HP.out.box, (hb1.block _ (by omega)).trans HP.out.res, HP.out.lies.below (hb1.mono (by omega)), HP.out.below.trans (hb1.mono (by omega))⟩))
        clear hrun ho1 hb1
        go_wp2_with (at_builtin; refine wpList_append_run rfl (.tmp 31) (.tmp 33) 22 22 rfl _ _ _ y1 rfl rfl HRUN.out ?_)
        go_roundg (o.ents.length - (k + 1))
        case rel => exact ⟨k + 1, A4, c4', by omega, rfl, by go_num, by go_num, rfl, HX.out.2, HX.out.1⟩
        case measure => omega
      · have h1 : ¬ (k : Int) < o.ents.length := by omega
        obtain rfl : k = o.ents.length := by omega
        have HF := Lib.hid (show L.take o.ents.length = L from List.take_of_length_le (by have := HLL.out; omega))
        rw [HF.out] at HR
        have f2 := HP.out.box.free 2
        obtain ⟨Ax, cx, ex, hri⟩ := rowIn_own ent_len (by omega) HR.out
        have hri : RowIn 3 entV wr (w.heap.size + 2) wr.heap.size A3 L := by
          injection ex with ex _ _
          rw [ex]; exact hri
        clear ex
        have hb5 : BoxAt (wr.setCell ⟨w.heap.size, 2, none⟩ (.slice A3 o.ents.length c3')) w.heap.size 25 #[.int .i64 o.kind, .string o.text, .slice A3 o.ents.length c3', .string o.tree, .slice P o.parents.length d, .string o.target, .int .i64 o.ofk, .string o.name, .string o.who, .int .i64 o.time] := Hg.heap_setCell_cells HP.out.box 2 _
        have hr5 : BoxAt (wr.setCell ⟨w.heap.size, 2, none⟩ (.slice A3 o.ents.length c3')) (w.heap.size + 1) 25 (objC zero none 0 none 0) := (Below.heap_setCell _ _ _ _ (show w.heap.size + 1 ≠ w.heap.size by omega)).trans HP.out.res
        have h3 : Below w.heap.size wr (wr.setCell ⟨w.heap.size, 2, none⟩ (.slice A3 o.ents.length c3')) := (Below.refl _ wr).setCell (p := ⟨w.heap.size, 2, none⟩) (Nat.le_refl _) _
        have HZ5 := Lib.hid (show WZ w (wr.setCell ⟨w.heap.size, 2, none⟩ (.slice A3 o.ents.length c3')) { o with ents := L } A3 c3' P d from by
          have hsz : (wr.setCell ⟨w.heap.size, 2, none⟩ (.slice A3 o.ents.length c3')).heap.size = wr.heap.size := by simp [World.setCell]
          refine ⟨?_, hr5, fun W' h => ?_, fun W' h => strs_mono (strs_far (HP.out.lies.pars.below h3) (by omega) h) (by rw [hsz]; exact HP.out.below.size), HP.out.below.trans h3⟩
          · show BoxAt _ _ _ (objC _ _ _ _ _)
            unfold objC
            simp only [HLL.out]
            exact hb5
          · rw [hsz]
            exact (hri.keep (W' := W') fun g h7 _ => (h g (by omega)).trans (Below.heap_setCell _ _ _ _ (show g ≠ w.heap.size by omega))).recs)
        clear h3 hri
        go_upto_region 12 with fail
        generalize wr.setCell ⟨w.heap.size, 2, none⟩ (.slice A3 o.ents.length c3') = W5 at *
        obtain ⟨e0, e1, e2, e3, e4, e5, e6, e7, e8, e9⟩ := ten_cells hb5
        obtain ⟨z0, z1, z2, z3, z4, z5, z6, z7, z8, z9⟩ := ten_cells (show BoxAt W5 (w.heap.size + 1) 25 #[.int .i64 0, .string ⟨#[]⟩, .slice none 0 0, .string ⟨#[]⟩, .slice none 0 0, .string ⟨#[]⟩, .int .i64 0, .string ⟨#[]⟩, .string ⟨#[]⟩, .int .i64 0] from hr5)
        have zf := fun i => hr5.free i
        clear hb5 hr5 f2
        go_wp2
        refine KEY.out W5 _ { o with ents := L } A3 c3' P d _ o.parents.length HO.out HZ5.out HLL.out rfl ?_
        rfl
  · have ho := with_commit hk l
    rw [edges_commit hk] at hll
    have q2 : (o.kind == 2) = false := beq_eq_false_iff_ne.2 (by omega)
    have q3 : (o.kind == 3) = true := beq_iff_eq.2 hk
    have q4 : (o.kind == 4) = false := beq_eq_false_iff_ne.2 (by omega)
    clear hk
    have hln : l.length = o.parents.length + 1 := by rw [hll]; simp
    obtain ⟨Ad, cd, hs1, hrd⟩ := str_from1 (c := cl) (HS.out.below HP.out.below) hln (by omega)
    obtain ⟨al, rfl, hBl, n0⟩ := (HS.out.below HP.out.below) 0 (by omega)
    have n1 : W1.cell? al = some (.string (l.getD 0 ByteArray.empty)) := n0
    have hdl : (l.drop 1).length = o.parents.length := by rw [List.length_drop, hln]; omega
    obtain ⟨a, ha⟩ : ∃ a, l.getD 0 ByteArray.empty = a := ⟨_, rfl⟩
    obtain ⟨ps, hps⟩ : ∃ ps, l.drop 1 = ps := ⟨_, rfl⟩
    rw [ha, hps] at ho
    rw [ha] at n1
    rw [hps] at hrd hdl
    have HO := Lib.hid ho
    have HDL := Lib.hid hdl
    rw [hln]
    have f3 := HP.out.box.free 3
    have h3 : Below w.heap.size W1 (W1.setCell ⟨w.heap.size, 3, none⟩ (.string a)) := (Below.refl _ W1).setCell (p := ⟨w.heap.size, 3, none⟩) (Nat.le_refl _) _
    have hb3 : BoxAt (W1.setCell ⟨w.heap.size, 3, none⟩ (.string a)) w.heap.size 25 #[.int .i64 o.kind, .string o.text, .slice A o.ents.length c, .string a, .slice P o.parents.length d, .string o.target, .int .i64 o.ofk, .string o.name, .string o.who, .int .i64 o.time] := Hg.heap_setCell_cells HP.out.box 3 _
    have hr3 : BoxAt (W1.setCell ⟨w.heap.size, 3, none⟩ (.string a)) (w.heap.size + 1) 25 (objC zero none 0 none 0) := (Below.heap_setCell _ _ _ _ (show w.heap.size + 1 ≠ w.heap.size by omega)).trans HP.out.res
    have HX3 := Lib.hid (And.intro hb3 (And.intro hr3 (And.intro (HP.out.lies.ents.below h3) (And.intro (hrd.below h3) (HP.out.below.trans h3)))))
    clear ho hll n0 z0 z1 z2 z3 z4 z5 z6 z7 z8 z9 zf hrd ha hps hdl h3 hb3 hr3 hln
    go_upto_region 14 with fail
    generalize W1.setCell ⟨w.heap.size, 3, none⟩ (.string a) = W3 at *
    have hsz3 : w.heap.size + 2 ≤ W3.heap.size := by have := HX3.out.2.1.lt; omega
    have hb2 : Below W3.heap.size W3 (W3.alloc (.cells #[] 9)) := (Below.refl _ W3).alloc (Nat.le_refl _) _
    obtain ⟨v6, y5, hrun, ho7, hg8, _⟩ := app_recs HE1.out stV_len stV_one (W3.alloc (.cells #[] 9)) W3.heap.size (.slice (some ⟨W3.heap.size, 0, none⟩) 0 0) [] ps Ad cd _ 23 (own_empty W3 _ _) ((HX3.out.2.2.2.1.below (hb2.mono HX3.out.2.2.2.2.size)).mono (Nat.le_trans HX3.out.2.2.2.2.size hb2.size)) (by simp) (by have := HDL.out; omega) hb2.size
    have hb9 : Below W3.heap.size W3 y5 := hb2.grown hg8 hb2.size (fun i hi => ((own_empty W3 9 1).lt i hi).1)
    rw [List.nil_append] at ho7
    obtain ⟨A', c', rfl, hr⟩ := rowIn_own stV_len (by omega) ho7
    rw [HDL.out] at hrun
    have HRUN := Lib.hid hrun
    have hb5 : BoxAt y5 w.heap.size 25 #[.int .i64 o.kind, .string o.text, .slice A o.ents.length c, .string a, .slice P o.parents.length d, .string o.target, .int .i64 o.ofk, .string o.name, .string o.who, .int .i64 o.time] := (hb9.block _ (by omega)).trans HX3.out.1
    have f4 := hb5.free 4
    have k4 := hb5.cell 4
    have hb6 : BoxAt (y5.setCell ⟨w.heap.size, 4, none⟩ (.slice A' o.parents.length c')) w.heap.size 25 #[.int .i64 o.kind, .string o.text, .slice A o.ents.length c, .string a, .slice A' o.parents.length c', .string o.target, .int .i64 o.ofk, .string o.name, .string o.who, .int .i64 o.time] := Hg.heap_setCell_cells hb5 4 _
    have hr6 : BoxAt (y5.setCell ⟨w.heap.size, 4, none⟩ (.slice A' o.parents.length c')) (w.heap.size + 1) 25 (objC zero none 0 none 0) := (Below.heap_setCell _ _ _ _ (show w.heap.size + 1 ≠ w.heap.size by omega)).trans ((hb9.block _ (by omega)).trans HX3.out.2.1)
    have h6 : Below w.heap.size W3 (y5.setCell ⟨w.heap.size, 4, none⟩ (.slice A' o.parents.length c')) := (hb9.mono (show w.heap.size ≤ W3.heap.size by omega)).setCell (p := ⟨w.heap.size, 4, none⟩) (Nat.le_refl _) _
    have HZ6 := Lib.hid (show WZ w (y5.setCell ⟨w.heap.size, 4, none⟩ (.slice A' o.parents.length c')) { o with tree := a, parents := ps } A c A' c' from by
      have hsz : (y5.setCell ⟨w.heap.size, 4, none⟩ (.slice A' o.parents.length c')).heap.size = y5.heap.size := by simp [World.setCell]
      refine ⟨?_, hr6, fun W' h => (ents_far (HX3.out.2.2.1.below h6) (by omega) h).mono (by rw [hsz]; exact Nat.le_trans (show w.heap.size ≤ W3.heap.size by omega) hb9.size), fun W' h => ?_, HX3.out.2.2.2.2.trans h6⟩
      · show BoxAt _ _ _ (objC _ _ _ _ _)
        unfold objC
        simp only [HDL.out]
        exact hb6
      · rw [hsz]
        exact strs_of_recs ((hr.keep (W' := W') fun g h7 _ => (h g (by omega)).trans (Below.heap_setCell _ _ _ _ (show g ≠ w.heap.size by omega))).recs))
    clear hrun ho7 hg8 hr hb2 h6 hb5
    go_upto_region 15 with (at_builtin; refine wpList_append_run rfl (.tmp 44) (.tmp 46) 23 23 rfl _ _ _ y5 rfl rfl HRUN.out ?_)
    generalize y5.setCell ⟨w.heap.size, 4, none⟩ (.slice A' o.parents.length c') = W6 at *
    obtain ⟨e0, e1, e2, e3, e4, e5, e6, e7, e8, e9⟩ := ten_cells hb6
    obtain ⟨z0, z1, z2, z3, z4, z5, z6, z7, z8, z9⟩ := ten_cells (show BoxAt W6 (w.heap.size + 1) 25 #[.int .i64 0, .string ⟨#[]⟩, .slice none 0 0, .string ⟨#[]⟩, .slice none 0 0, .string ⟨#[]⟩, .int .i64 0, .string ⟨#[]⟩, .string ⟨#[]⟩, .int .i64 0] from hr6)
    have zf := fun i => hr6.free i
    clear hb6 hr6
    go_wp2
    exact KEY.out W6 _ { o with tree := a, parents := ps } A c A' c' _ _ HO.out HZ6.out rfl HDL.out rfl
  · have ho := with_tag hk l
    rw [edges_tag hk] at hll
    have q2 : (o.kind == 2) = false := beq_eq_false_iff_ne.2 (by omega)
    have q3 : (o.kind == 3) = false := beq_eq_false_iff_ne.2 (by omega)
    have q4 : (o.kind == 4) = true := beq_iff_eq.2 hk
    clear hk
    obtain ⟨a, rfl⟩ : ∃ a, l = [a] := by
      match l, hll with
      | [a], _ => exact ⟨a, rfl⟩
    have HO := Lib.hid (show withF o [a] = { o with target := a } from ho)
    obtain ⟨al, rfl, hBl, n0⟩ := (HS.out.below HP.out.below) 0 (by simp)
    have n1 : W1.cell? al = some (.string a) := n0
    have f5 := HP.out.box.free 5
    have hb5 : BoxAt (W1.setCell ⟨w.heap.size, 5, none⟩ (.string a)) w.heap.size 25 #[.int .i64 o.kind, .string o.text, .slice A o.ents.length c, .string o.tree, .slice P o.parents.length d, .string a, .int .i64 o.ofk, .string o.name, .string o.who, .int .i64 o.time] := Hg.heap_setCell_cells HP.out.box 5 _
    have hr5 : BoxAt (W1.setCell ⟨w.heap.size, 5, none⟩ (.string a)) (w.heap.size + 1) 25 (objC zero none 0 none 0) := (Below.heap_setCell _ _ _ _ (show w.heap.size + 1 ≠ w.heap.size by omega)).trans HP.out.res
    have HZ5 := Lib.hid (show WZ w (W1.setCell ⟨w.heap.size, 5, none⟩ (.string a)) { o with target := a } A c P d from by
      have hbb := HP.out.below.setCell (p := ⟨w.heap.size, 5, none⟩) (Nat.le_refl _) (.string a)
      have hsz : (W1.setCell ⟨w.heap.size, 5, none⟩ (.string a)).heap.size = W1.heap.size := by simp [World.setCell]
      have h3 : Below w.heap.size W1 (W1.setCell ⟨w.heap.size, 5, none⟩ (.string a)) := (Below.refl _ W1).setCell (p := ⟨w.heap.size, 5, none⟩) (Nat.le_refl _) _
      exact ⟨hb5, hr5, fun W' h => (ents_far (HP.out.lies.ents.below h3) (by omega) h).mono (by rw [hsz]; exact HP.out.below.size), fun W' h => strs_mono (strs_far (HP.out.lies.pars.below h3) (by omega) h) (by rw [hsz]; exact HP.out.below.size), hbb⟩)
    clear ho hll n0 z0 z1 z2 z3 z4 z5 z6 z7 z8 z9
    go_upto_region 17 with fail
    generalize W1.setCell ⟨w.heap.size, 5, none⟩ (.string a) = W5 at *
    obtain ⟨e0, e1, e2, e3, e4, e5, e6, e7, e8, e9⟩ := ten_cells hb5
    obtain ⟨z0, z1, z2, z3, z4, z5, z6, z7, z8, z9⟩ := ten_cells (show BoxAt W5 (w.heap.size + 1) 25 #[.int .i64 0, .string ⟨#[]⟩, .slice none 0 0, .string ⟨#[]⟩, .slice none 0 0, .string ⟨#[]⟩, .int .i64 0, .string ⟨#[]⟩, .string ⟨#[]⟩, .int .i64 0] from hr5)
    replace zf := fun i => hr5.free i
    clear hb5 hr5
    go_wp2
    exact KEY.out W5 _ { o with target := a } A c P d _ _ HO.out HZ5.out rfl rfl rfl
  · have q2 : (o.kind == 2) = false := beq_eq_false_iff_ne.2 hk.1
    have q3 : (o.kind == 3) = false := beq_eq_false_iff_ne.2 hk.2.1
    have q4 : (o.kind == 4) = false := beq_eq_false_iff_ne.2 hk.2.2
    have HO := Lib.hid (with_none hk l)
    clear hk
    go_wp2
    exact KEY.out W1 _ o A c P d _ _ HO.out ⟨HP.out.box, HP.out.res, fun W' h => (ents_far HP.out.lies.ents (by omega) h).mono HP.out.below.size, fun W' h => strs_mono (strs_far HP.out.lies.pars (by omega) h) HP.out.below.size, HP.out.below⟩ rfl rfl rfl
end Go.Proofs.Ytlpidedijknohaa.Hq
