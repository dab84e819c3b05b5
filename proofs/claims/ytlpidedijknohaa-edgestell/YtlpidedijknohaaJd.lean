/-
  Layer 12, the program's side: an object's edges.
-/
import Derived.Test.YtlpidedijknohaaJc
namespace Go.Proofs.Ytlpidedijknohaa.Hq
open Go.RowKit Ob Hr Hj Eg
set_option linter.unusedVariables false

theorem getD_map {α β : Type} [Inhabited α] [Inhabited β] (f : α → β) {l : List α} {i : Nat} (h : i < l.length) : (l.map f).getD i default = f (l.getD i default) := by
  simp [List.getD, List.getElem?_eq_getElem h]
theorem getD_range {β : Type} [Inhabited β] (f : Nat → β) {n i : Nat} (h : i < n) : ((List.range n).map f).getD i default = f i := by
  simp [List.getD, h]
/-- at a place its name stands -/
theorem plc_cell {W : World} {g B : Nat} {o : Thing} {A : Option Addr} {c : Nat} {P : Option Addr} {d i : Nat} (hb : BoxAt W g 25 (objC o A c P d)) (hl : Lies W B o A P) (hi : i < (edgesF o).length) :
    W.cell? ((placesF g A P o).getD i default).ad = some (.string ((edgesF o).getD i default).1) ∧ ((placesF g A P o).getD i default).kd = ((edgesF o).getD i default).2 ∧ (((placesF g A P o).getD i default).ad.block < B ∨ ((placesF g A P o).getD i default).ad.block = g) := by
  rcases kinds o with hk | hk | hk | hk
  · rw [edges_tree hk] at hi ⊢
    rw [places_tree hk]
    rw [List.length_map] at hi
    rw [getD_map _ hi, entPl, getD_range _ hi]
    obtain ⟨ad, e, hB, hc⟩ := hl.ents i hi
    refine ⟨?_, rfl, .inl ?_⟩
    · have := hc 2 (by omega)
      rw [show entAt A i = (ad.add (i * 3)).add 2 from by rw [entAt, e]; rfl, this]; rfl
    · show (entAt A i).block < B
      rw [entAt, e]
      show ((ad.add (i * 3))).block < B
      rw [block_of_add]; exact hB
  · rw [edges_commit hk] at hi ⊢
    rw [places_commit hk]
    cases i with
    | zero => exact ⟨hb.cell 3, rfl, .inr rfl⟩
    | succ i =>
      have hi' : i < o.parents.length := by simpa using hi
      obtain ⟨ad, e, hB, hc⟩ := hl.pars i hi'
      have e1 : ((⟨⟨g, 3, none⟩, 2⟩ : Plc) :: parPl P o.parents.length).getD (i + 1) default = ⟨parAt P i, 3⟩ := by
        show (parPl P o.parents.length).getD i default = _
        rw [parPl, getD_range _ hi']
      have e2 : ((((o.tree, 2) : Edg) :: o.parents.map fun p => ((p, 3) : Edg))).getD (i + 1) default = (o.parents.getD i default, 3) := by
        show (o.parents.map fun p => ((p, 3) : Edg)).getD i default = _
        rw [getD_map _ hi']
      rw [e1, e2]
      refine ⟨?_, rfl, .inl ?_⟩
      · show W.cell? (parAt P i) = _
        rw [show parAt P i = ad.add i from by rw [parAt, e]; rfl, hc]
        simp [List.getD, List.getElem?_eq_getElem hi']
      · show (parAt P i).block < B
        rw [show parAt P i = ad.add i from by rw [parAt, e]; rfl, block_of_add]; exact hB
  · rw [edges_tag hk] at hi ⊢
    rw [places_tag hk]
    have hi0 : i = 0 := by simpa using hi
    subst hi0
    exact ⟨hb.cell 5, rfl, .inr rfl⟩
  · rw [edges_none hk] at hi
    simp at hi
theorem ed_size : (Try.prog.info? 36).map (·.size) = some 2 := by kernel_rfl
theorem ed_ret {fn : Func} {p : Tmp} (h : fn.results = #[.cell p 36]) (tmps : Array Value) (w : World) (g : Nat) (a b : Value)
    (hp : tmps.getD p undef = .pointer (some ⟨g, 0, none⟩)) (hg : BoxAt w g 36 #[a, b]) : (results fn tmps).run Try.prog w = .ok (.agg #[a, b]) w :=
  results_cell_row h tmps w g _ _ (0, 0) _ hp hg Try.underlying36 rfl ed_size
theorem ed_elem : ∃ i0, ElemOf 28 36 2 i0 (.agg #[.string ByteArray.empty, .int .i64 0]) 24 := mkElem Try.underlying28 (by kernel_rfl) rfl (by decide) (by decide)

set_option maxHeartbeats 4000000 in
set_option maxRecDepth 100000 in
theorem edge_any (w : World) (ad : Addr) (k : Int) (s : ByteArray) (h : w.cell? ad = some (.string s)) :
    Calls Try.prog 24 #[.agg #[.pointer (some ad), .int .i64 k]] w fun e w' => e = .returned (.agg #[.string s, .int .i64 k]) ∧ Below w.heap.size w w' := by
  have hlt := World.block_lt_of_cell? _ _ h
  have HB := Lib.hid (two_new w 54 36 #[.pointer (some ad), .int .i64 k] #[.string ⟨#[]⟩, .int .i64 0])
  have HC := Lib.hid ((HB.out.below.cell hlt).trans h)
  clear h
  go_enter Try.func24, Try.ntmps24
  go_upto_region 1 with fail
  generalize (w.alloc (.cells #[.pointer (some ad), .int .i64 k] 54 (0, 0))).alloc (.cells #[.string ⟨#[]⟩, .int .i64 0] 36 (0, 0)) = W1 at *
  have k0 := HC.out
  have k1 := HB.out.a.cell 0
  have k2 := HB.out.a.cell 1
  have f0 := HB.out.b.free 0
  have f1 := HB.out.b.free 1
  have u0 := HB.out.b.cell 0
  have u1 := HB.out.b.cell 1
  clear hlt
  go_region
  have hb1 := Hg.heap_setCell_cells HB.out.b 0 (.string s)
  have hb2 : BoxAt ((W1.setCell ⟨w.heap.size + 1, 0, none⟩ (.string s)).setCell ⟨w.heap.size + 1, 1, none⟩ (.int .i64 k)) (w.heap.size + 1) 36 #[.string s, .int .i64 k] := Hg.heap_setCell_cells hb1 1 (.int .i64 k)
  have hbw : Below w.heap.size w ((W1.setCell ⟨w.heap.size + 1, 0, none⟩ (.string s)).setCell ⟨w.heap.size + 1, 1, none⟩ (.int .i64 k)).drew := ((HB.out.below.setCell (p := ⟨w.heap.size + 1, 0, none⟩) (by simp) _).setCell (p := ⟨w.heap.size + 1, 1, none⟩) (by simp) _).drew
  have HR := Lib.hid (And.intro (show BoxAt ((W1.setCell ⟨w.heap.size + 1, 0, none⟩ (.string s)).setCell ⟨w.heap.size + 1, 1, none⟩ (.int .i64 k)).drew (w.heap.size + 1) 36 #[.string s, .int .i64 k] from hb2) hbw)
  clear hb1 hb2 hbw
  generalize ((W1.setCell ⟨w.heap.size + 1, 0, none⟩ (.string s)).setCell ⟨w.heap.size + 1, 1, none⟩ (.int .i64 k)).drew = W2 at *
  go_wp2
  exact bodyPost_ret (ed_ret (p := 2) Try.results24 _ _ (w.heap.size + 1) _ _ rfl HR.out.1) rfl ⟨rfl, HR.out.2⟩

/-- a row of places, record by record -/
theorem plc_rec {W : World} {B : Nat} {A2 : Option Addr} {c2 : Nat} {Q : List Plc} {n : Nat} (h : W.ownsRow B 54 2 (.slice A2 n c2) n (Q.flatMap plV)) (hn : Q.length = n) : Recs 2 plV W W.heap.size A2 Q := by
  obtain ⟨A, c, e, _, hr⟩ := recs_own plV_len (by omega) h
  injection e with e _ _
  subst e
  exact hr

set_option maxHeartbeats 8000000 in
set_option maxRecDepth 100000 in
theorem pOf_any (w : World) (B : Nat) (o : Thing) (A : Option Addr) (c : Nat) (P : Option Addr) (d : Nat) (hl : Lies w B o A P) (hB : B ≤ w.heap.size) (he : o.ents.length ≤ 10000) (hp : o.parents.length ≤ 10000) :
    Calls Try.prog 8 #[.agg (objC o A c P d)] w fun e w' => (∃ A2 c2, e = .returned (.slice A2 (edgesF o).length c2) ∧ w'.ownsRow w.heap.size 36 2 (.slice A2 (edgesF o).length c2) (edgesF o).length ((edgesF o).flatMap edV)) ∧ Below w.heap.size w w' := by
  obtain ⟨i0, E⟩ := ed_elem
  have HE := Lib.hid E
  have HP := Lib.hid (keep_new (c := c) (d := d) hl hB)
  have hln : (edgesF o).length ≤ 10001 := by
    rcases kinds o with hk | hk | hk | hk
    · rw [edges_tree hk]; simp; omega
    · rw [edges_commit hk]; simp; omega
    · rw [edges_tag hk]; simp
    · rw [edges_none hk]; simp
  have HC := Lib.hid (places_any (w.alloc (.cells (objC o A c P d) 25 (0, 0))) w.heap.size B o A c P d HP.out.box.a ⟨HP.out.ents, HP.out.pars⟩ (by simp; omega) he hp)
  have HPC := Lib.hid (fun W i (h : Keep w W B o A c P d) (hi : i < (edgesF o).length) => plc_cell h.box.a ⟨h.ents, h.pars⟩ hi)
  have hQl : (placesF w.heap.size A P o).length = (edgesF o).length := placesF_len _ _ _ _
  clear hl E he hp
  generalize hL : edgesF o = L at *
  generalize hQ : placesF w.heap.size A P o = Q at *
  clear hL hQ
  obtain ⟨n, hn⟩ : ∃ n, L.length = n := ⟨_, rfl⟩
  rw [hn] at HC hQl hln HPC ⊢
  have HNL := Lib.hid (And.intro hn hQl)
  have HTL := Lib.hid (show ∀ k, k ≤ n → (L.take k).length = k from fun k h => by rw [List.length_take]; omega)
  have HTK := Lib.hid (show ∀ k, k < n → L.take (k + 1) = L.take k ++ [L.getD k default] from fun k h => take_snoc (by omega))
  clear hQl hn
  go_enter Try.func8, Try.ntmps8
  go_wp2_with (go_at_call 23; refine HC.out.mono ?_; rintro r w2 ⟨⟨A2, c2, rfl, hrow⟩, hb2⟩)
  have HQ := Lib.hid (plc_rec hrow HNL.out.2)
  rw [World.size_alloc] at hb2
  have HP2 := Lib.hid (HP.out.step hB hb2)
  clear hrow hb2 HC HP
  go_loopg [3, 8] n (fun g' v i wr => ∃ (k : Nat) (A3 : Option Addr) (c3 : Nat), k ≤ n ∧ g' = n - k ∧ i = .int .i64 k ∧ v = .slice A3 k c3 ∧ Below w2.heap.size w2 wr ∧ wr.ownsRow w2.heap.size 36 2 v k ((L.take k).flatMap edV))
  case atStart => exact ⟨0, none, 0, Nat.zero_le _, rfl, rfl, rfl, Below.refl _ _, World.ownsRow_nil _ _ _ _⟩
  case round =>
    obtain ⟨k, A3, c3, hkl, rfl, rfl, rfl, hbl, hown⟩ := hrel
    have HP3 := Lib.hid (HP2.out.step hB (hbl.mono HP2.out.size))
    have HO := Lib.hid (And.intro hbl hown)
    clear hbl hown
    by_cases hlt : k < n
    · have h1 : (k : Int) < n := by omega
      have h0 : (0 : Int) ≤ k := by omega
      obtain ⟨ad2, e, hB1, hc⟩ := (HQ.out.below HO.out.1) k (by rw [HNL.out.2]; exact hlt)
      have m0 : wr.cell? (ad2.add (k * 2)) = some (.pointer (some (Q.getD k default).ad)) := by have := hc 0 (by omega); rwa [show (ad2.add (k * 2)).add 0 = ad2.add (k * 2) from rfl] at this
      have m1 : wr.cell? ⟨(ad2.add (k * 2)).block, (ad2.add (k * 2)).off + 1, none⟩ = some (.int .i64 (Q.getD k default).kd) := hc 1 (by omega)
      obtain ⟨p1, p2, p3⟩ := HPC.out wr k HP3.out hlt
      rw [p2] at m1
      have HS := Lib.hid (HTK.out k hlt)
      have hlen := HTL.out k hkl
      have hlk := HTL.out (k + 1) hlt
      have hw1 : IntKind.i64.wrap ((k : Int) + 1) = (k : Int) + 1 := IntWalk.i64_in _ (by omega)
      generalize (Q.getD k default).ad = qa at *
      generalize L.getD k default = x at *
      obtain ⟨xs, xk⟩ := x
      simp only at p1 m1
      subst e
      have hba : Below wr.heap.size wr (wr.alloc (.cells #[.pointer (some qa), .int .i64 xk] 54 (0, 0))) := (Below.refl _ wr).alloc (Nat.le_refl _) _
      have HCE := Lib.hid (edge_any (wr.alloc (.cells #[.pointer (some qa), .int .i64 xk] 54 (0, 0))) qa xk xs ((hba.cell (World.block_lt_of_cell? _ _ p1)).trans p1))
      have HBA := Lib.hid hba
      clear hc hba p1 p2 p3
      go_wp2_with (first
        | (go_at_call 24; refine HCE.out.mono ?_; rintro r w3 ⟨rfl, hb3⟩
           have hb3' := HBA.out.trans (hb3.mono HBA.out.size)
           obtain ⟨A4, c4, y1, hrun, ho1, hb1⟩ := app_one HE.out edV_len edV_one w3 w2.heap.size A3 c3 (L.take k) (xs, xk) 28 (by rw [hlen]; exact own_step HO.out.2 hb3') (by omega) (Nat.le_trans HO.out.1.size hb3'.size)
           rw [← HS.out, hlk] at hrun ho1
           simp only [edV, hlen] at hrun
           have HRUN := Lib.hid hrun
           have HX := Lib.hid (And.intro ho1 (HO.out.1.trans ((hb3'.mono HO.out.1.size).trans hb1)))
           clear hrun ho1 hb1 hb3 hb3')
        | (at_builtin; refine wpList_append_run rfl (.tmp 12) (.tmp 15) 28 28 rfl _ _ _ y1 rfl rfl HRUN.out ?_))
      go_roundg (n - (k + 1))
      case rel => exact ⟨k + 1, A4, c4, by omega, rfl, by go_num, rfl, HX.out.2, HX.out.1⟩
      case measure => omega
    · have h1 : ¬ (k : Int) < n := by omega
      obtain rfl : k = n := by omega
      have HF := Lib.hid (show L.take k = L from List.take_of_length_le (by have := HNL.out.1; omega))
      rw [HF.out] at HO
      go_wp2
      go_ret
      exact ⟨⟨A3, c3, rfl, own_down HO.out.2 (by have := HP2.out.size; omega)⟩, HP2.out.box.below.trans (HO.out.1.mono HP2.out.box.below.size)⟩
end Go.Proofs.Ytlpidedijknohaa.Hq
