/-
  Layer 12, the program's side: Map.
-/
import Derived.Test.YtlpidedijknohaaJg
import Derived.Test.YtlpidedijknohaaFork
namespace Go.Proofs.Ytlpidedijknohaa.Hq
open Go.RowKit Ob Hr Hj Eg
set_option linter.unusedVariables false

theorem results_cell_row2 {P : Program} {fn : Func} {p u : Tmp} {ty : TypeId} (h : fn.results = #[.cell p ty, .tmp u]) (tmps : Array Value) (w : World) (g : Nat) (t : TypeId) (cs : Array Value) (fr : Nat × Nat) (d : TypeDesc)
    (hp : tmps.getD p undef = .pointer (some ⟨g, 0, none⟩)) (hg : w.heap[g]? = some (.cells cs t fr))
    (hu : P.underlying ty = some d) (hd : (match d with | .struct _ | .array _ _ => true | _ => false) = true) (hi : (P.info? ty).map (·.size) = some cs.size) :
    (results fn tmps).run P w = .ok (.tuple #[.agg cs, tmps.getD u undef]) w := by
  rw [results_cell_tmp h, hp]
  simp [asAddr, Result.andThen, run_loadVar_row w g t ty cs fr d hg hu hd hi]

theorem ob_ret2 {fn : Func} {p u : Tmp} (h : fn.results = #[.cell p 25, .tmp u]) (tmps : Array Value) (w : World) (g : Nat) (o : Thing) (A : Option Addr) (c : Nat) (P : Option Addr) (d : Nat)
    (hp : tmps.getD p undef = .pointer (some ⟨g, 0, none⟩)) (hg : BoxAt w g 25 (objC o A c P d)) : (results fn tmps).run Try.prog w = .ok (.tuple #[.agg (objC o A c P d), tmps.getD u undef]) w :=
  results_cell_row2 h tmps w g _ _ (0, 0) _ hp hg Try.underlying25 rfl ob_size
theorem ten_arr (cs : Array Value) (hc : cs.size = 10) (v0 v1 v2 v3 v4 v5 v6 v7 v8 v9 : Value) : ((((((((((cs.setIfInBounds 0 v0).setIfInBounds 1 v1).setIfInBounds 2 v2).setIfInBounds 3 v3).setIfInBounds 4 v4).setIfInBounds 5 v5).setIfInBounds 6 v6).setIfInBounds 7 v7).setIfInBounds 8 v8).setIfInBounds 9 v9) = #[v0, v1, v2, v3, v4, v5, v6, v7, v8, v9] := by
  obtain ⟨l⟩ := cs
  match l, hc with
  | [a, b, c, d, e, f, g, h, i, j], _ =>
    apply Array.toList_inj.1
    simp
/-- a box of ten cells, written one by one -/
theorem ten_set {w : World} {b t : Nat} {cs : Array Value} (hc : cs.size = 10) (v0 v1 v2 v3 v4 v5 v6 v7 v8 v9 : Value) (h : BoxAt w b t cs) :
    BoxAt ((((((((((w.setCell ⟨b, 0, none⟩ v0).setCell ⟨b, 1, none⟩ v1).setCell ⟨b, 2, none⟩ v2).setCell ⟨b, 3, none⟩ v3).setCell ⟨b, 4, none⟩ v4).setCell ⟨b, 5, none⟩ v5).setCell ⟨b, 6, none⟩ v6).setCell ⟨b, 7, none⟩ v7).setCell ⟨b, 8, none⟩ v8).setCell ⟨b, 9, none⟩ v9) b t #[v0, v1, v2, v3, v4, v5, v6, v7, v8, v9] := by
  have e := Hg.heap_setCell_cells (Hg.heap_setCell_cells (Hg.heap_setCell_cells (Hg.heap_setCell_cells (Hg.heap_setCell_cells (Hg.heap_setCell_cells (Hg.heap_setCell_cells (Hg.heap_setCell_cells (Hg.heap_setCell_cells (Hg.heap_setCell_cells h 0 v0) 1 v1) 2 v2) 3 v3) 4 v4) 5 v5) 6 v6) 7 v7) 8 v8) 9 v9
  exact e.trans (congrArg (fun x => some (Obj.cells x t (0, 0))) (ten_arr cs hc v0 v1 v2 v3 v4 v5 v6 v7 v8 v9))
theorem ten_kept (w : World) (b k : Nat) (hk : k ≠ b) (v0 v1 v2 v3 v4 v5 v6 v7 v8 v9 : Value) :
    ((((((((((w.setCell ⟨b, 0, none⟩ v0).setCell ⟨b, 1, none⟩ v1).setCell ⟨b, 2, none⟩ v2).setCell ⟨b, 3, none⟩ v3).setCell ⟨b, 4, none⟩ v4).setCell ⟨b, 5, none⟩ v5).setCell ⟨b, 6, none⟩ v6).setCell ⟨b, 7, none⟩ v7).setCell ⟨b, 8, none⟩ v8).setCell ⟨b, 9, none⟩ v9).heap[k]? = w.heap[k]? := by
  have s1 : ∀ (W : World) (o : Nat) (u : Value), (W.setCell ⟨b, o, none⟩ u).heap[k]? = W.heap[k]? := fun W o u => Below.heap_setCell _ _ _ _ hk
  rw [s1, s1, s1, s1, s1, s1, s1, s1, s1, s1]
theorem ten_below (w : World) (b B : Nat) (hB : B ≤ b) (v0 v1 v2 v3 v4 v5 v6 v7 v8 v9 : Value) :
    Below B w ((((((((((w.setCell ⟨b, 0, none⟩ v0).setCell ⟨b, 1, none⟩ v1).setCell ⟨b, 2, none⟩ v2).setCell ⟨b, 3, none⟩ v3).setCell ⟨b, 4, none⟩ v4).setCell ⟨b, 5, none⟩ v5).setCell ⟨b, 6, none⟩ v6).setCell ⟨b, 7, none⟩ v7).setCell ⟨b, 8, none⟩ v8).setCell ⟨b, 9, none⟩ v9) :=
  have s1 : ∀ (W : World) (o : Nat) (u : Value), Below B w W → Below B w (W.setCell ⟨b, o, none⟩ u) := fun W o u h => h.setCell (p := ⟨b, o, none⟩) hB u
  s1 _ _ _ (s1 _ _ _ (s1 _ _ _ (s1 _ _ _ (s1 _ _ _ (s1 _ _ _ (s1 _ _ _ (s1 _ _ _ (s1 _ _ _ (s1 _ _ _ (Below.refl _ _))))))))))

/-- ahead of the clones -/
structure Pre (w W : World) (o : Thing) (A : Option Addr) (c : Nat) (P : Option Addr) (d : Nat) : Prop where
  box : BoxAt W w.heap.size 25 (objC o A c P d)
  res : BoxAt W (w.heap.size + 1) 25 (objC zero none 0 none 0)
  lies : Lies W w.heap.size o A P
  below : Below w.heap.size w W
theorem Pre.step {w W W' : World} {o : Thing} {A : Option Addr} {c : Nat} {P : Option Addr} {d : Nat} (h : Pre w W o A c P d) (hb : Below W.heap.size W W') : Pre w W' o A c P d :=
  ⟨h.box.step hb, h.res.step hb, h.lies.below (hb.mono h.below.size), h.below.trans (hb.mono h.below.size)⟩
/-- behind them -/
structure PreZ (w W : World) (M U : Nat) (o : Thing) (A : Option Addr) (c : Nat) (P : Option Addr) (d : Nat) : Prop where
  st : St W w.heap.size M U o A c P d
  res : BoxAt W (w.heap.size + 1) 25 (objC zero none 0 none 0)
  below : Below w.heap.size w W
  low : w.heap.size + 2 ≤ M
  mid : M ≤ U
  up : U ≤ W.heap.size
theorem prez {w V W5 W6 : World} {o : Thing} {A A1 : Option Addr} {c c1 : Nat} {P P1 : Option Addr} {d d1 : Nat} (HP : Pre w W6 o A c P d) (HR1 : RowIn 3 entV W6 V.heap.size W5.heap.size A1 o.ents) (HR2 : RowIn 1 stV W6 W5.heap.size W6.heap.size P1 o.parents) (HS : w.heap.size + 2 ≤ V.heap.size) (h5 : V.heap.size ≤ W5.heap.size) (h6 : W5.heap.size ≤ W6.heap.size) :
    PreZ w ((W6.setCell ⟨w.heap.size, 2, none⟩ (.slice A1 o.ents.length c1)).setCell ⟨w.heap.size, 4, none⟩ (.slice P1 o.parents.length d1)) W5.heap.size W6.heap.size o A1 c1 P1 d1 := by
  have hb2 : BoxAt (W6.setCell ⟨w.heap.size, 2, none⟩ (.slice A1 o.ents.length c1)) w.heap.size 25 (objC o A1 c1 P d) := Hg.heap_setCell_cells HP.box 2 _
  have hb4 : BoxAt ((W6.setCell ⟨w.heap.size, 2, none⟩ (.slice A1 o.ents.length c1)).setCell ⟨w.heap.size, 4, none⟩ (.slice P1 o.parents.length d1)) w.heap.size 25 (objC o A1 c1 P1 d1) := Hg.heap_setCell_cells hb2 4 _
  have hkk : ∀ g, g ≠ w.heap.size → ((W6.setCell ⟨w.heap.size, 2, none⟩ (.slice A1 o.ents.length c1)).setCell ⟨w.heap.size, 4, none⟩ (.slice P1 o.parents.length d1)).heap[g]? = W6.heap[g]? := fun g hg => (Below.heap_setCell _ _ _ _ hg).trans (Below.heap_setCell _ _ _ _ hg)
  have hsz : ((W6.setCell ⟨w.heap.size, 2, none⟩ (.slice A1 o.ents.length c1)).setCell ⟨w.heap.size, 4, none⟩ (.slice P1 o.parents.length d1)).heap.size = W6.heap.size := by simp [World.setCell]
  exact ⟨⟨hb4, (HR1.keep fun g h1 _ => hkk g (by omega)).wider HS (Nat.le_refl _), HR2.keep fun g h1 _ => hkk g (by omega)⟩, (hkk _ (by omega)).trans HP.res, (HP.below.setCell (p := ⟨w.heap.size, 2, none⟩) (Nat.le_refl _) _).setCell (p := ⟨w.heap.size, 4, none⟩) (Nat.le_refl _) _, by omega, h6, by omega⟩
/-- while the names are asked for -/
structure MS (w W : World) (M U V : Nat) (o : Thing) (A : Option Addr) (c : Nat) (P : Option Addr) (d : Nat) (A2 : Option Addr) (Q : List Plc) (l : List ByteArray) : Prop where
  st : St W w.heap.size M U (withF o l) A c P d
  res : BoxAt W (w.heap.size + 1) 25 (objC zero none 0 none 0)
  row : RowIn 2 plV W U V A2 Q
  low : w.heap.size + 2 ≤ M
  mid : M ≤ U
  up : U ≤ V
  top : V ≤ W.heap.size
section
variable {w W W' : World} {M U V : Nat} {o : Thing} {A : Option Addr} {c : Nat} {P : Option Addr} {d : Nat} {A2 : Option Addr} {Q : List Plc} {l : List ByteArray}
theorem MS.keep (h : MS w W M U V o A c P d A2 Q l) (ha : Above w.heap.size W W') : MS w W' M U V o A c P d A2 Q l := by
  have h1 := h.low
  have h2 := h.mid
  have h3 := h.up
  have h4 := h.top
  exact ⟨h.st.keep ha.block h1 h2 (by omega), (ha.block _ (by omega) (by omega)).trans h.res, h.row.keep fun g h5 h6 => ha.block g (by omega) (by omega), h1, h2, h3, Nat.le_trans h4 ha.size⟩
theorem MS.put (h : MS w W M U V o A c P d A2 Q l) (hl : l.length = (edgesF o).length) {i : Nat} (hi : i < (edgesF o).length) (s : ByteArray) :
    W.cell? ((placesF w.heap.size A P o).getD i default).ad = some (.string (l.getD i default)) ∧ W.frozen? ((placesF w.heap.size A P o).getD i default).ad = false ∧ w.heap.size ≤ ((placesF w.heap.size A P o).getD i default).ad.block ∧ MS w (W.setCell ((placesF w.heap.size A P o).getD i default).ad (.string s)) M U V o A c P d A2 Q (l.set i s) := by
  have h1 := h.low
  have h2 := h.mid
  have h3 := h.up
  obtain ⟨k1, k2, k3, k4⟩ := h.st.put hl hi h2 h1 s
  refine ⟨k1, k2, by omega, ⟨k4, (Below.heap_setCell _ _ _ _ (by omega)).trans h.res, h.row.keep fun g h5 h6 => Below.heap_setCell _ _ _ _ (by omega), h1, h2, h3, by have := h.top; simpa [World.setCell] using this⟩⟩
end
theorem ms_start {w W W' : World} {M U : Nat} {o : Thing} {A : Option Addr} {c : Nat} {P : Option Addr} {d : Nat} {A2 : Option Addr} {Q : List Plc} (h : PreZ w W M U o A c P d) (hb : Below W.heap.size W W') (hr : RowIn 2 plV W' W.heap.size W'.heap.size A2 Q) : MS w W' M U W'.heap.size o A c P d A2 Q (idsF o) := by
  have h1 := h.low
  have h2 := h.mid
  have h3 := h.up
  refine ⟨by rw [with_ids]; exact h.st.keep (fun g _ h4 => hb.block g h4) h1 h2 h3, h.res.step hb, hr.wider h3 (Nat.le_refl _), h1, h2, Nat.le_trans h3 hb.size, Nat.le_refl _⟩
theorem plc_row {W : World} {B : Nat} {A2 : Option Addr} {c2 : Nat} {Q : List Plc} {n : Nat} (h : W.ownsRow B 54 2 (.slice A2 n c2) n (Q.flatMap plV)) : RowIn 2 plV W B W.heap.size A2 Q := by
  obtain ⟨A, c, e, hr⟩ := rowIn_own plV_len (by omega) h
  injection e with e _ _
  rw [e]
  exact hr
theorem plc_kind {g : Nat} {A P : Option Addr} {o : Thing} {i : Nat} (hi : i < (edgesF o).length) : ((placesF g A P o).getD i default).kd = ((edgesF o).getD i default).2 := by
  rcases kinds o with hk | hk | hk | hk
  · rw [edges_tree hk, List.length_map] at hi
    rw [edges_tree hk, places_tree hk, getD_map _ hi, entPl, getD_range _ hi]
  · rw [edges_commit hk] at hi ⊢
    rw [places_commit hk]
    cases i with
    | zero => rfl
    | succ i =>
      have hi' : i < o.parents.length := by simpa using hi
      show ((parPl P o.parents.length).getD i default).kd = ((o.parents.map fun p => ((p, 3) : Edg)).getD i default).2
      rw [parPl, getD_range _ hi', getD_map _ hi']
  · rw [edges_tag hk] at hi ⊢
    rw [places_tag hk]
    obtain rfl : i = 0 := by simpa using hi
    rfl
  · rw [edges_none hk] at hi
    simp at hi

/-- what Map answers: all told, or up to the first error -/
def MapPost (w : World) (o : Thing) (told : Nat → ByteArray) (er : Nat → Int) (S : Nat → World → Prop) (j : Nat) (e : Ending) (w' : World) : Prop :=
  w.heap.size ≤ w'.heap.size ∧ (j = (edgesF o).length → ∃ A' c' P' d' M U, e = .returned (.tuple #[.agg (objC (withF o ((List.range (edgesF o).length).map told)) A' c' P' d'), .int .i64 0]) ∧ S (edgesF o).length w' ∧ RowIn 3 entV w' w.heap.size M A' (withF o ((List.range (edgesF o).length).map told)).ents ∧ RowIn 1 stV w' M U P' (withF o ((List.range (edgesF o).length).map told)).parents ∧ w.heap.size ≤ M ∧ M ≤ U ∧ U ≤ w'.heap.size) ∧
    (j < (edgesF o).length → e = .returned (.tuple #[.agg (objC zero none 0 none 0), .int .i64 (er j)]) ∧ S (j + 1) w')

set_option maxHeartbeats 16000000 in
set_option maxRecDepth 100000 in
theorem pMap_any (w : World) (o : Thing) (A : Option Addr) (c : Nat) (P : Option Addr) (d : Nat) (told : Nat → ByteArray) (er : Nat → Int) (f : Nat) (lb : Array Value) (S : Nat → World → Prop) (F : FnOk w.heap.size (edgesF o) told er f lb S) (hS : S 0 w) (hl : Lies w w.heap.size o A P) (he : o.ents.length ≤ 10000) (hp : o.parents.length ≤ 10000)
    (j : Nat) (hj : j ≤ (edgesF o).length) (hj0 : ∀ i, i < j → er i = 0) (hj1 : j < (edgesF o).length → er j ≠ 0) :
    Calls Try.prog 13 #[.agg (objC o A c P d), .func (.func f) #[] lb] w (MapPost w o told er S j) := by
  have HP := Lib.hid (show Pre w ((w.alloc (.cells (objC o A c P d) 25 (0, 0))).alloc (.cells #[.int .i64 0, .string ⟨#[]⟩, .slice none 0 0, .string ⟨#[]⟩, .slice none 0 0, .string ⟨#[]⟩, .int .i64 0, .string ⟨#[]⟩, .string ⟨#[]⟩, .int .i64 0] 25 (0, 0))) o A c P d from ⟨(two_new w _ _ _ _).a, (two_new w _ _ _ _).b, hl.below (two_new w 25 25 (objC o A c P d) (objC zero none 0 none 0)).below, (two_new w _ _ _ _).below⟩)
  have HF := Lib.hid F
  have HS := Lib.hid hS
  have HJ := Lib.hid (And.intro hj (And.intro hj0 hj1))
  have hln := edges_few he hp
  clear hl F hS hj hj0 hj1
  go_enter Try.func13, Try.ntmps13
  go_upto_region 1 with fail
  generalize (w.alloc (.cells (objC o A c P d) 25 (0, 0))).alloc (.cells #[.int .i64 0, .string ⟨#[]⟩, .slice none 0 0, .string ⟨#[]⟩, .slice none 0 0, .string ⟨#[]⟩, .int .i64 0, .string ⟨#[]⟩, .string ⟨#[]⟩, .int .i64 0] 25 (0, 0)) = W1 at *
  refine wp_region_tree (fun _ => True) (.take 0 0 (.take 3 1 (.fork 1 4 9 (.fork 2 4 11 (.call 4 15 (.call 5 31 (.take 6 63 (.call 7 127 (.take 8 255 (.call 9 511 .done)))))) (.call 2 27 (.call 5 31 (.take 6 63 (.call 7 127 (.take 8 255 (.call 9 511 .done))))))) (.call 1 25 (.call 2 27 (.call 5 31 (.take 6 63 (.call 7 127 (.take 8 255 (.call 9 511 .done)))))))))) 10 (by kernel_rfl) (by kernel_rfl) (by kernel_rfl) (fun d _ _ _ _ h => by cases d <;> exact h) (by kernel_rfl) trivial ?_
  have HP := Lib.hid (HP.out.step (Below.refl _ W1).drew)
  generalize W1.drew = V at *
  have HSZ := Lib.hid (show w.heap.size + 2 ≤ V.heap.size from by have := HP.out.res.lt; omega)
  refine trH_take (.pointer (some ⟨w.heap.size, 2, none⟩)) rfl (Or.inl ⟨by rfl, fun W _ => by go_simp⟩) ?_
  go_simp
  refine trH_take (.pointer (some ⟨w.heap.size, 4, none⟩)) rfl (Or.inl ⟨by rfl, fun W _ => by go_simp⟩) ?_
  go_simp
  refine trH_fork rfl (by rfl) rfl (by rfl) (fun K hK => ?_) (fun K hK => ?_)
  · have HK := Lib.hid hK
    clear hK
    have k2 : V.cell? ⟨w.heap.size, 2, none⟩ = some (.slice A o.ents.length c) := HP.out.box.ten.2.2.1
    go_simp
    refine HK.out _ _ trivial ?_
    clear HK K k2
    go_simp
    refine trH_fork rfl (by rfl) rfl (by rfl) (fun K hK => ?_) (fun K hK => ?_)
    · have HK := Lib.hid hK
      clear hK
      go_simp
      refine (cloneE_any V w.heap.size A c o.ents HP.out.lies.ents HP.out.below.size he).mono ?_
      rintro r W5 ⟨⟨A1, c1, rfl, hr1⟩, hb5⟩
      have HR1 := Lib.hid hr1
      have HP := Lib.hid (HP.out.step hb5)
      have HV := Lib.hid hb5.size
      clear hr1 hb5
      refine HK.out _ _ trivial ?_
      clear HK K
      go_simp
      refine trH_call rfl (by rfl) (fun K hK => ?_)
      have HK := Lib.hid hK
      clear hK
      have k4 : W5.cell? ⟨w.heap.size, 4, none⟩ = some (.slice P o.parents.length d) := HP.out.box.ten.2.2.2.2.1
      go_simp
      refine HK.out _ _ trivial ?_
      clear HK K k4
      go_simp
      refine trH_call rfl (by rfl) (fun K hK => ?_)
      have HK := Lib.hid hK
      clear hK
      go_simp
      refine (cloneS_any W5 w.heap.size P d o.parents HP.out.lies.pars HP.out.below.size hp).mono ?_
      rintro r W6 ⟨⟨P1, d1, rfl, hr2⟩, hb6⟩
      have HR2 := Lib.hid hr2
      have HR1 := Lib.hid (HR1.out.keep (W' := W6) fun g _ h2 => hb6.block g h2)
      have HP := Lib.hid (HP.out.step hb6)
      have HV2 := Lib.hid hb6.size
      clear hr2 hb6
      refine HK.out _ _ trivial ?_
      clear HK K
      go_simp
      refine trH_take (.pointer (some ⟨w.heap.size, 2, none⟩)) rfl (Or.inl ⟨by rfl, fun W _ => by go_simp⟩) ?_
      go_simp
      refine trH_call rfl (by rfl) (fun K hK => ?_)
      have HK := Lib.hid hK
      clear hK
      have f2 := HP.out.box.free 2
      have k2 := HP.out.box.ten.2.2.1
      go_simp
      refine HK.out _ _ trivial ?_
      clear HK K f2 k2
      go_simp
      refine trH_take (.pointer (some ⟨w.heap.size, 4, none⟩)) rfl (Or.inl ⟨by rfl, fun W _ => by go_simp⟩) ?_
      go_simp
      refine trH_call rfl (by rfl) (fun K hK => ?_)
      have HK := Lib.hid hK
      clear hK
      have hb2 : BoxAt (W6.setCell ⟨w.heap.size, 2, none⟩ (.slice A1 o.ents.length c1)) w.heap.size 25 (objC o A1 c1 P d) := Hg.heap_setCell_cells HP.out.box 2 _
      have f4 := hb2.free 4
      have k4 := hb2.ten.2.2.2.2.1
      go_simp
      refine HK.out _ _ trivial ?_
      clear HK K f4 k4
      go_simp
      have HZ := Lib.hid (prez (c1 := c1) (d1 := d1) HP.out HR1.out HR2.out HSZ.out HV.out HV2.out)
      clear hb2 HP HR1 HR2 HV HV2 HSZ
      generalize ((W6.setCell ⟨w.heap.size, 2, none⟩ (.slice A1 o.ents.length c1)).setCell ⟨w.heap.size, 4, none⟩ (.slice P1 o.parents.length d1)) = W8 at *
      generalize W5.heap.size = M at *
      generalize W6.heap.size = U at *
      refine trH_done ?_
      have HS8 := Lib.hid (HF.out.under 0 _ _ HS.out HZ.out.below)
      have HC := Lib.hid (places_any W8 w.heap.size U o A1 c1 P1 d1 HZ.out.st.box (HZ.out.st.lies HZ.out.mid) HZ.out.up he hp)
      have HKD := Lib.hid (fun i (hi : i < (edgesF o).length) => plc_kind (g := w.heap.size) (A := A1) (P := P1) hi)
      go_wp2_with (go_at_call 23; refine HC.out.mono ?_; rintro r w3 ⟨⟨A2, c2, rfl, hrow⟩, hb3⟩)
      have hrow2 := plc_row hrow
      have HS3 := Lib.hid (HF.out.under 0 _ _ HS8.out (hb3.mono (Nat.le_trans (by have := HZ.out.low; have := HZ.out.mid; omega) HZ.out.up)))
      have HM := Lib.hid (ms_start HZ.out hb3 hrow2)
      have HWS := Lib.hid (show w.heap.size ≤ w3.heap.size from Nat.le_trans (by have := HZ.out.low; have := HZ.out.mid; have := HZ.out.up; omega) hb3.size)
      clear hrow hrow2 hb3 HC HS8 HZ
      go_loopg [20] (edgesF o).length (fun g' i wr => ∃ k : Nat, k ≤ j ∧ g' = (edgesF o).length - k ∧ i = .int .i64 k ∧ S k wr ∧ MS w wr M U w3.heap.size o A1 c1 P1 d1 A2 (placesF w.heap.size A1 P1 o) (mixL told (idsF o) k) ∧ w.heap.size ≤ wr.heap.size)
      case atStart => exact ⟨0, Nat.zero_le _, rfl, rfl, HS3.out, HM.out, HWS.out⟩
      case round =>
        obtain ⟨k, hkj, rfl, rfl, hsk, hms, hws⟩ := hrel
        by_cases hlt : k < (edgesF o).length
        · have h1 : (k : Int) < (edgesF o).length := by omega
          have h0 : (0 : Int) ≤ k := by omega
          have hw1 : IntKind.i64.wrap ((k : Int) + 1) = (k : Int) + 1 := IntWalk.i64_in _ (by omega)
          obtain ⟨ad2, e, hB1, hc⟩ := hms.row.recs k (by rw [placesF_len]; exact hlt)
          have m0 : wr.cell? (ad2.add (k * 2)) = some (.pointer (some ((placesF w.heap.size A1 P1 o).getD k default).ad)) := by have := hc 0 (by omega); rwa [show (ad2.add (k * 2)).add 0 = ad2.add (k * 2) from rfl] at this
          have m1 : wr.cell? ⟨(ad2.add (k * 2)).block, (ad2.add (k * 2)).off + 1, none⟩ = some (.int .i64 ((placesF w.heap.size A1 P1 o).getD k default).kd) := hc 1 (by omega)
          rw [HKD.out k hlt] at m1
          have hput := fun W (h : MS w W M U w3.heap.size o A1 c1 P1 d1 A2 (placesF w.heap.size A1 P1 o) (mixL told (idsF o) k)) => h.put (by rw [mix_len, ids_len]) hlt (told k)
          have hmk : (mixL told (idsF o) k).getD k default = ((edgesF o).getD k default).1 := by
            rw [← getD_ids o hlt]
            simp only [List.getD, mix_ge told (idsF o) k k (Nat.le_refl _)]
          rw [hmk] at hput
          have htd := fun W h1 h2 => told_any HF.out k W h1 h2 hlt
          generalize ((placesF w.heap.size A1 P1 o).getD k default).ad = qa at *
          generalize (edgesF o).getD k default = y at *
          obtain ⟨x, kd⟩ := y
          simp only at m1 hput htd
          subst e
          have HPUT := Lib.hid hput
          have HTD := Lib.hid htd
          have hba : Below wr.heap.size wr (wr.alloc (.cells #[.pointer (some qa), .int .i64 kd] 54 (0, 0))) := (Below.refl _ wr).alloc (Nat.le_refl _) _
          have HXX := Lib.hid (show S k (wr.alloc (.cells #[.pointer (some qa), .int .i64 kd] 54 (0, 0))) ∧ MS w (wr.alloc (.cells #[.pointer (some qa), .int .i64 kd] 54 (0, 0))) M U w3.heap.size o A1 c1 P1 d1 (some ad2) (placesF w.heap.size A1 P1 o) (mixL told (idsF o) k) ∧ w.heap.size ≤ (wr.alloc (.cells #[.pointer (some qa), .int .i64 kd] 54 (0, 0))).heap.size ∧ BoxAt (wr.alloc (.cells #[.pointer (some qa), .int .i64 kd] 54 (0, 0))) wr.heap.size 54 #[.pointer (some qa), .int .i64 kd] from ⟨HF.out.under _ _ _ hsk (hba.mono hws), hms.keep (Above.of hba), Nat.le_trans hws hba.size, box_new wr _ _⟩)
          have HCE := Lib.hid (edge_any _ qa kd x (HPUT.out _ HXX.out.2.1).1)
          have HJW := Lib.hid hws
          clear hc hms hsk hput htd hmk hba hws
          by_cases hkj2 : k = j
          · have q6 : (er k != 0) = true := bne_iff_ne.2 (by rw [hkj2]; exact HJ.out.2.2 (by omega))
            subst hkj2
            go_wp2_with (first
              | (go_at_call 24; refine HCE.out.mono ?_; rintro r w5 ⟨rfl, hb5⟩
                 have HXX := Lib.hid (And.intro (HF.out.under _ _ _ HXX.out.1 (hb5.mono HXX.out.2.2.1)) (And.intro (HXX.out.2.1.keep (Above.of hb5)) (And.intro (Nat.le_trans HXX.out.2.2.1 hb5.size) (HXX.out.2.2.2.step hb5))))
                 clear hb5)
              | (go_at_call 30; refine (HTD.out _ HXX.out.1 HXX.out.2.2.1).mono ?_; rintro r w6 ⟨rfl, hs6, ha6⟩
                 have HYY := Lib.hid (And.intro hs6 (And.intro (HXX.out.2.1.keep ha6) (Nat.le_trans HXX.out.2.2.1 ha6.size)))
                 have hr := HYY.out.2.1.res
                 obtain ⟨r0, r1, r2, r3, r4, r5, r6, r7, r8, r9⟩ := hr.ten
                 have hfr := fun i => hr.free i
                 clear hs6 ha6 hr))
            have HB := Lib.hid (ten_below w6 (w.heap.size + 1) w.heap.size (by omega) (.int .i64 0) (.string ⟨#[]⟩) (.slice none 0 0) (.string ⟨#[]⟩) (.slice none 0 0) (.string ⟨#[]⟩) (.int .i64 0) (.string ⟨#[]⟩) (.string ⟨#[]⟩) (.int .i64 0))
            refine bodyPost_ret (ob_ret2 (p := 4) (u := 5) Try.results13 _ _ (w.heap.size + 1) zero none 0 none 0 rfl (ten_set rfl _ _ _ _ _ _ _ _ _ _ HYY.out.2.1.res)) rfl ⟨Nat.le_trans HYY.out.2.2 HB.out.size, fun hjn => absurd hjn (by omega), fun _ => ⟨rfl, HF.out.under _ _ _ HYY.out.1 HB.out⟩⟩
          · have q6 : (er k != 0) = false := by rw [HJ.out.2.1 k (by omega)]; rfl
            go_wp2_with (first
              | (go_at_call 24; refine HCE.out.mono ?_; rintro r w5 ⟨rfl, hb5⟩
                 have HXX := Lib.hid (And.intro (HF.out.under _ _ _ HXX.out.1 (hb5.mono HXX.out.2.2.1)) (And.intro (HXX.out.2.1.keep (Above.of hb5)) (And.intro (Nat.le_trans HXX.out.2.2.1 hb5.size) (HXX.out.2.2.2.step hb5))))
                 clear hb5)
              | (go_at_call 30; refine (HTD.out _ HXX.out.1 HXX.out.2.2.1).mono ?_; rintro r w6 ⟨rfl, hs6, ha6⟩
                 have HYY := Lib.hid (And.intro hs6 (And.intro (HXX.out.2.1.keep ha6) (Nat.le_trans HXX.out.2.2.1 ha6.size)))
                 have hbx : BoxAt w6 wr.heap.size 54 #[.pointer (some qa), .int .i64 kd] := (ha6.block _ HJW.out HXX.out.2.2.2.lt).trans HXX.out.2.2.2
                 have k0 := hbx.cell 0
                 obtain ⟨p2, p3, p4, p5⟩ := HPUT.out _ HYY.out.2.1
                 have HP5 := Lib.hid (And.intro p4 p5)
                 clear hs6 ha6 hbx p4 p5))
            go_roundg ((edgesF o).length - (k + 1))
            case rel => exact ⟨k + 1, by omega, rfl, by go_num, HF.out.under _ _ _ HYY.out.1 ((Below.refl _ _).setCell HP5.out.1 _), HP5.out.2, Nat.le_trans HYY.out.2.2 (by simp [World.setCell])⟩
            case measure => omega
        · have h1 : ¬ (k : Int) < (edgesF o).length := by omega
          have hjn : j = (edgesF o).length := by have := HJ.out.1; omega
          have hkn : k = (edgesF o).length := by have := HJ.out.1; omega
          have HN := Lib.hid (And.intro hjn (show mixL told (idsF o) k = (List.range (edgesF o).length).map told from by rw [hkn, ← ids_len, mix_all]))
          rw [HN.out.2] at hms
          have HYY := Lib.hid (And.intro hsk (And.intro hms hws))
          have HKN := Lib.hid hkn
          clear hsk hms hws hjn hkn
          have hr := HYY.out.2.1.res
          obtain ⟨r0, r1, r2, r3, r4, r5, r6, r7, r8, r9⟩ := hr.ten
          have hfr := fun i => hr.free i
          have hbx := HYY.out.2.1.st.box
          obtain ⟨o', ho'⟩ : ∃ o', withF o ((List.range (edgesF o).length).map told) = o' := ⟨_, rfl⟩
          rw [ho'] at hbx
          obtain ⟨b0, b1, b2, b3, b4, b5, b6, b7, b8, b9⟩ := hbx.ten
          clear hr hbx
          go_wp2
          have HB := Lib.hid (ten_below wr (w.heap.size + 1) w.heap.size (by omega) (.int .i64 o'.kind) (.string o'.text) (.slice A1 o'.ents.length c1) (.string o'.tree) (.slice P1 o'.parents.length d1) (.string o'.target) (.int .i64 o'.ofk) (.string o'.name) (.string o'.who) (.int .i64 o'.time))
          have HKP := Lib.hid (fun k hk => ten_kept wr (w.heap.size + 1) k hk (.int .i64 o'.kind) (.string o'.text) (.slice A1 o'.ents.length c1) (.string o'.tree) (.slice P1 o'.parents.length d1) (.string o'.target) (.int .i64 o'.ofk) (.string o'.name) (.string o'.who) (.int .i64 o'.time))
          refine bodyPost_ret (ob_ret2 (p := 4) (u := 5) Try.results13 _ _ (w.heap.size + 1) o' A1 c1 P1 d1 rfl (ten_set rfl _ _ _ _ _ _ _ _ _ _ HYY.out.2.1.res)) rfl ⟨Nat.le_trans HYY.out.2.2 HB.out.size, fun _ => ⟨A1, c1, P1, d1, M, U, by rw [ho']; rfl, ?_, ?_, ?_, by have := HYY.out.2.1.low; omega, HYY.out.2.1.mid, ?_⟩, fun hlt2 => absurd hlt2 (by have := HN.out.1; omega)⟩
          · rw [← HKN.out]; exact HF.out.under _ _ _ HYY.out.1 HB.out
          · exact (HYY.out.2.1.st.ents.keep fun g h2 _ => HKP.out g (by omega)).wider (by omega) (Nat.le_refl _)
          · exact HYY.out.2.1.st.pars.keep fun g h2 _ => HKP.out g (by have := HYY.out.2.1.low; omega)
          · exact Nat.le_trans (Nat.le_trans HYY.out.2.1.up HYY.out.2.1.top) HB.out.size

    · have HK := Lib.hid hK
      clear hK
      have k4 : V.cell? ⟨w.heap.size, 4, none⟩ = some (.slice P o.parents.length d) := HP.out.box.ten.2.2.2.2.1
      go_simp
      refine HK.out _ _ trivial ?_
      clear HK K k4
      go_simp
      refine trH_call rfl (by rfl) (fun K hK => ?_)
      have HK := Lib.hid hK
      clear hK
      go_simp
      refine (cloneE_any V w.heap.size A c o.ents HP.out.lies.ents HP.out.below.size he).mono ?_
      rintro r W5 ⟨⟨A1, c1, rfl, hr1⟩, hb5⟩
      have HR1 := Lib.hid hr1
      have HP := Lib.hid (HP.out.step hb5)
      have HV := Lib.hid hb5.size
      clear hr1 hb5
      refine HK.out _ _ trivial ?_
      clear HK K
      go_simp
      refine trH_call rfl (by rfl) (fun K hK => ?_)
      have HK := Lib.hid hK
      clear hK
      go_simp
      refine (cloneS_any W5 w.heap.size P d o.parents HP.out.lies.pars HP.out.below.size hp).mono ?_
      rintro r W6 ⟨⟨P1, d1, rfl, hr2⟩, hb6⟩
      have HR2 := Lib.hid hr2
      have HR1 := Lib.hid (HR1.out.keep (W' := W6) fun g _ h2 => hb6.block g h2)
      have HP := Lib.hid (HP.out.step hb6)
      have HV2 := Lib.hid hb6.size
      clear hr2 hb6
      refine HK.out _ _ trivial ?_
      clear HK K
      go_simp
      refine trH_take (.pointer (some ⟨w.heap.size, 2, none⟩)) rfl (Or.inl ⟨by rfl, fun W _ => by go_simp⟩) ?_
      go_simp
      refine trH_call rfl (by rfl) (fun K hK => ?_)
      have HK := Lib.hid hK
      clear hK
      have f2 := HP.out.box.free 2
      have k2 := HP.out.box.ten.2.2.1
      go_simp
      refine HK.out _ _ trivial ?_
      clear HK K f2 k2
      go_simp
      refine trH_take (.pointer (some ⟨w.heap.size, 4, none⟩)) rfl (Or.inl ⟨by rfl, fun W _ => by go_simp⟩) ?_
      go_simp
      refine trH_call rfl (by rfl) (fun K hK => ?_)
      have HK := Lib.hid hK
      clear hK
      have hb2 : BoxAt (W6.setCell ⟨w.heap.size, 2, none⟩ (.slice A1 o.ents.length c1)) w.heap.size 25 (objC o A1 c1 P d) := Hg.heap_setCell_cells HP.out.box 2 _
      have f4 := hb2.free 4
      have k4 := hb2.ten.2.2.2.2.1
      go_simp
      refine HK.out _ _ trivial ?_
      clear HK K f4 k4
      go_simp
      have HZ := Lib.hid (prez (c1 := c1) (d1 := d1) HP.out HR1.out HR2.out HSZ.out HV.out HV2.out)
      clear hb2 HP HR1 HR2 HV HV2 HSZ
      generalize ((W6.setCell ⟨w.heap.size, 2, none⟩ (.slice A1 o.ents.length c1)).setCell ⟨w.heap.size, 4, none⟩ (.slice P1 o.parents.length d1)) = W8 at *
      generalize W5.heap.size = M at *
      generalize W6.heap.size = U at *
      refine trH_done ?_
      have HS8 := Lib.hid (HF.out.under 0 _ _ HS.out HZ.out.below)
      have HC := Lib.hid (places_any W8 w.heap.size U o A1 c1 P1 d1 HZ.out.st.box (HZ.out.st.lies HZ.out.mid) HZ.out.up he hp)
      have HKD := Lib.hid (fun i (hi : i < (edgesF o).length) => plc_kind (g := w.heap.size) (A := A1) (P := P1) hi)
      go_wp2_with (go_at_call 23; refine HC.out.mono ?_; rintro r w3 ⟨⟨A2, c2, rfl, hrow⟩, hb3⟩)
      have hrow2 := plc_row hrow
      have HS3 := Lib.hid (HF.out.under 0 _ _ HS8.out (hb3.mono (Nat.le_trans (by have := HZ.out.low; have := HZ.out.mid; omega) HZ.out.up)))
      have HM := Lib.hid (ms_start HZ.out hb3 hrow2)
      have HWS := Lib.hid (show w.heap.size ≤ w3.heap.size from Nat.le_trans (by have := HZ.out.low; have := HZ.out.mid; have := HZ.out.up; omega) hb3.size)
      clear hrow hrow2 hb3 HC HS8 HZ
      go_loopg [20] (edgesF o).length (fun g' i wr => ∃ k : Nat, k ≤ j ∧ g' = (edgesF o).length - k ∧ i = .int .i64 k ∧ S k wr ∧ MS w wr M U w3.heap.size o A1 c1 P1 d1 A2 (placesF w.heap.size A1 P1 o) (mixL told (idsF o) k) ∧ w.heap.size ≤ wr.heap.size)
      case atStart => exact ⟨0, Nat.zero_le _, rfl, rfl, HS3.out, HM.out, HWS.out⟩
      case round =>
        obtain ⟨k, hkj, rfl, rfl, hsk, hms, hws⟩ := hrel
        by_cases hlt : k < (edgesF o).length
        · have h1 : (k : Int) < (edgesF o).length := by omega
          have h0 : (0 : Int) ≤ k := by omega
          have hw1 : IntKind.i64.wrap ((k : Int) + 1) = (k : Int) + 1 := IntWalk.i64_in _ (by omega)
          obtain ⟨ad2, e, hB1, hc⟩ := hms.row.recs k (by rw [placesF_len]; exact hlt)
          have m0 : wr.cell? (ad2.add (k * 2)) = some (.pointer (some ((placesF w.heap.size A1 P1 o).getD k default).ad)) := by have := hc 0 (by omega); rwa [show (ad2.add (k * 2)).add 0 = ad2.add (k * 2) from rfl] at this
          have m1 : wr.cell? ⟨(ad2.add (k * 2)).block, (ad2.add (k * 2)).off + 1, none⟩ = some (.int .i64 ((placesF w.heap.size A1 P1 o).getD k default).kd) := hc 1 (by omega)
          rw [HKD.out k hlt] at m1
          have hput := fun W (h : MS w W M U w3.heap.size o A1 c1 P1 d1 A2 (placesF w.heap.size A1 P1 o) (mixL told (idsF o) k)) => h.put (by rw [mix_len, ids_len]) hlt (told k)
          have hmk : (mixL told (idsF o) k).getD k default = ((edgesF o).getD k default).1 := by
            rw [← getD_ids o hlt]
            simp only [List.getD, mix_ge told (idsF o) k k (Nat.le_refl _)]
          rw [hmk] at hput
          have htd := fun W h1 h2 => told_any HF.out k W h1 h2 hlt
          generalize ((placesF w.heap.size A1 P1 o).getD k default).ad = qa at *
          generalize (edgesF o).getD k default = y at *
          obtain ⟨x, kd⟩ := y
          simp only at m1 hput htd
          subst e
          have HPUT := Lib.hid hput
          have HTD := Lib.hid htd
          have hba : Below wr.heap.size wr (wr.alloc (.cells #[.pointer (some qa), .int .i64 kd] 54 (0, 0))) := (Below.refl _ wr).alloc (Nat.le_refl _) _
          have HXX := Lib.hid (show S k (wr.alloc (.cells #[.pointer (some qa), .int .i64 kd] 54 (0, 0))) ∧ MS w (wr.alloc (.cells #[.pointer (some qa), .int .i64 kd] 54 (0, 0))) M U w3.heap.size o A1 c1 P1 d1 (some ad2) (placesF w.heap.size A1 P1 o) (mixL told (idsF o) k) ∧ w.heap.size ≤ (wr.alloc (.cells #[.pointer (some qa), .int .i64 kd] 54 (0, 0))).heap.size ∧ BoxAt (wr.alloc (.cells #[.pointer (some qa), .int .i64 kd] 54 (0, 0))) wr.heap.size 54 #[.pointer (some qa), .int .i64 kd] from ⟨HF.out.under _ _ _ hsk (hba.mono hws), hms.keep (Above.of hba), Nat.le_trans hws hba.size, box_new wr _ _⟩)
          have HCE := Lib.hid (edge_any _ qa kd x (HPUT.out _ HXX.out.2.1).1)
          have HJW := Lib.hid hws
          clear hc hms hsk hput htd hmk hba hws
          by_cases hkj2 : k = j
          · have q6 : (er k != 0) = true := bne_iff_ne.2 (by rw [hkj2]; exact HJ.out.2.2 (by omega))
            subst hkj2
            go_wp2_with (first
              | (go_at_call 24; refine HCE.out.mono ?_; rintro r w5 ⟨rfl, hb5⟩
                 have HXX := Lib.hid (And.intro (HF.out.under _ _ _ HXX.out.1 (hb5.mono HXX.out.2.2.1)) (And.intro (HXX.out.2.1.keep (Above.of hb5)) (And.intro (Nat.le_trans HXX.out.2.2.1 hb5.size) (HXX.out.2.2.2.step hb5))))
                 clear hb5)
              | (go_at_call 30; refine (HTD.out _ HXX.out.1 HXX.out.2.2.1).mono ?_; rintro r w6 ⟨rfl, hs6, ha6⟩
                 have HYY := Lib.hid (And.intro hs6 (And.intro (HXX.out.2.1.keep ha6) (Nat.le_trans HXX.out.2.2.1 ha6.size)))
                 have hr := HYY.out.2.1.res
                 obtain ⟨r0, r1, r2, r3, r4, r5, r6, r7, r8, r9⟩ := hr.ten
                 have hfr := fun i => hr.free i
                 clear hs6 ha6 hr))
            have HB := Lib.hid (ten_below w6 (w.heap.size + 1) w.heap.size (by omega) (.int .i64 0) (.string ⟨#[]⟩) (.slice none 0 0) (.string ⟨#[]⟩) (.slice none 0 0) (.string ⟨#[]⟩) (.int .i64 0) (.string ⟨#[]⟩) (.string ⟨#[]⟩) (.int .i64 0))
            refine bodyPost_ret (ob_ret2 (p := 4) (u := 5) Try.results13 _ _ (w.heap.size + 1) zero none 0 none 0 rfl (ten_set rfl _ _ _ _ _ _ _ _ _ _ HYY.out.2.1.res)) rfl ⟨Nat.le_trans HYY.out.2.2 HB.out.size, fun hjn => absurd hjn (by omega), fun _ => ⟨rfl, HF.out.under _ _ _ HYY.out.1 HB.out⟩⟩
          · have q6 : (er k != 0) = false := by rw [HJ.out.2.1 k (by omega)]; rfl
            go_wp2_with (first
              | (go_at_call 24; refine HCE.out.mono ?_; rintro r w5 ⟨rfl, hb5⟩
                 have HXX := Lib.hid (And.intro (HF.out.under _ _ _ HXX.out.1 (hb5.mono HXX.out.2.2.1)) (And.intro (HXX.out.2.1.keep (Above.of hb5)) (And.intro (Nat.le_trans HXX.out.2.2.1 hb5.size) (HXX.out.2.2.2.step hb5))))
                 clear hb5)
              | (go_at_call 30; refine (HTD.out _ HXX.out.1 HXX.out.2.2.1).mono ?_; rintro r w6 ⟨rfl, hs6, ha6⟩
                 have HYY := Lib.hid (And.intro hs6 (And.intro (HXX.out.2.1.keep ha6) (Nat.le_trans HXX.out.2.2.1 ha6.size)))
                 have hbx : BoxAt w6 wr.heap.size 54 #[.pointer (some qa), .int .i64 kd] := (ha6.block _ HJW.out HXX.out.2.2.2.lt).trans HXX.out.2.2.2
                 have k0 := hbx.cell 0
                 obtain ⟨p2, p3, p4, p5⟩ := HPUT.out _ HYY.out.2.1
                 have HP5 := Lib.hid (And.intro p4 p5)
                 clear hs6 ha6 hbx p4 p5))
            go_roundg ((edgesF o).length - (k + 1))
            case rel => exact ⟨k + 1, by omega, rfl, by go_num, HF.out.under _ _ _ HYY.out.1 ((Below.refl _ _).setCell HP5.out.1 _), HP5.out.2, Nat.le_trans HYY.out.2.2 (by simp [World.setCell])⟩
            case measure => omega
        · have h1 : ¬ (k : Int) < (edgesF o).length := by omega
          have hjn : j = (edgesF o).length := by have := HJ.out.1; omega
          have hkn : k = (edgesF o).length := by have := HJ.out.1; omega
          have HN := Lib.hid (And.intro hjn (show mixL told (idsF o) k = (List.range (edgesF o).length).map told from by rw [hkn, ← ids_len, mix_all]))
          rw [HN.out.2] at hms
          have HYY := Lib.hid (And.intro hsk (And.intro hms hws))
          have HKN := Lib.hid hkn
          clear hsk hms hws hjn hkn
          have hr := HYY.out.2.1.res
          obtain ⟨r0, r1, r2, r3, r4, r5, r6, r7, r8, r9⟩ := hr.ten
          have hfr := fun i => hr.free i
          have hbx := HYY.out.2.1.st.box
          obtain ⟨o', ho'⟩ : ∃ o', withF o ((List.range (edgesF o).length).map told) = o' := ⟨_, rfl⟩
          rw [ho'] at hbx
          obtain ⟨b0, b1, b2, b3, b4, b5, b6, b7, b8, b9⟩ := hbx.ten
          clear hr hbx
          go_wp2
          have HB := Lib.hid (ten_below wr (w.heap.size + 1) w.heap.size (by omega) (.int .i64 o'.kind) (.string o'.text) (.slice A1 o'.ents.length c1) (.string o'.tree) (.slice P1 o'.parents.length d1) (.string o'.target) (.int .i64 o'.ofk) (.string o'.name) (.string o'.who) (.int .i64 o'.time))
          have HKP := Lib.hid (fun k hk => ten_kept wr (w.heap.size + 1) k hk (.int .i64 o'.kind) (.string o'.text) (.slice A1 o'.ents.length c1) (.string o'.tree) (.slice P1 o'.parents.length d1) (.string o'.target) (.int .i64 o'.ofk) (.string o'.name) (.string o'.who) (.int .i64 o'.time))
          refine bodyPost_ret (ob_ret2 (p := 4) (u := 5) Try.results13 _ _ (w.heap.size + 1) o' A1 c1 P1 d1 rfl (ten_set rfl _ _ _ _ _ _ _ _ _ _ HYY.out.2.1.res)) rfl ⟨Nat.le_trans HYY.out.2.2 HB.out.size, fun _ => ⟨A1, c1, P1, d1, M, U, by rw [ho']; rfl, ?_, ?_, ?_, by have := HYY.out.2.1.low; omega, HYY.out.2.1.mid, ?_⟩, fun hlt2 => absurd hlt2 (by have := HN.out.1; omega)⟩
          · rw [← HKN.out]; exact HF.out.under _ _ _ HYY.out.1 HB.out
          · exact (HYY.out.2.1.st.ents.keep fun g h2 _ => HKP.out g (by omega)).wider (by omega) (Nat.le_refl _)
          · exact HYY.out.2.1.st.pars.keep fun g h2 _ => HKP.out g (by have := HYY.out.2.1.low; omega)
          · exact Nat.le_trans (Nat.le_trans HYY.out.2.1.up HYY.out.2.1.top) HB.out.size

  · have HK := Lib.hid hK
    clear hK
    have k4 : V.cell? ⟨w.heap.size, 4, none⟩ = some (.slice P o.parents.length d) := HP.out.box.ten.2.2.2.2.1
    go_simp
    refine HK.out _ _ trivial ?_
    clear HK K k4
    go_simp
    refine trH_call rfl (by rfl) (fun K hK => ?_)
    have HK := Lib.hid hK
    clear hK
    have k2 : V.cell? ⟨w.heap.size, 2, none⟩ = some (.slice A o.ents.length c) := HP.out.box.ten.2.2.1
    go_simp
    refine HK.out _ _ trivial ?_
    clear HK K k2
    go_simp
    refine trH_call rfl (by rfl) (fun K hK => ?_)
    have HK := Lib.hid hK
    clear hK
    go_simp
    refine (cloneE_any V w.heap.size A c o.ents HP.out.lies.ents HP.out.below.size he).mono ?_
    rintro r W5 ⟨⟨A1, c1, rfl, hr1⟩, hb5⟩
    have HR1 := Lib.hid hr1
    have HP := Lib.hid (HP.out.step hb5)
    have HV := Lib.hid hb5.size
    clear hr1 hb5
    refine HK.out _ _ trivial ?_
    clear HK K
    go_simp
    refine trH_call rfl (by rfl) (fun K hK => ?_)
    have HK := Lib.hid hK
    clear hK
    go_simp
    refine (cloneS_any W5 w.heap.size P d o.parents HP.out.lies.pars HP.out.below.size hp).mono ?_
    rintro r W6 ⟨⟨P1, d1, rfl, hr2⟩, hb6⟩
    have HR2 := Lib.hid hr2
    have HR1 := Lib.hid (HR1.out.keep (W' := W6) fun g _ h2 => hb6.block g h2)
    have HP := Lib.hid (HP.out.step hb6)
    have HV2 := Lib.hid hb6.size
    clear hr2 hb6
    refine HK.out _ _ trivial ?_
    clear HK K
    go_simp
    refine trH_take (.pointer (some ⟨w.heap.size, 2, none⟩)) rfl (Or.inl ⟨by rfl, fun W _ => by go_simp⟩) ?_
    go_simp
    refine trH_call rfl (by rfl) (fun K hK => ?_)
    have HK := Lib.hid hK
    clear hK
    have f2 := HP.out.box.free 2
    have k2 := HP.out.box.ten.2.2.1
    go_simp
    refine HK.out _ _ trivial ?_
    clear HK K f2 k2
    go_simp
    refine trH_take (.pointer (some ⟨w.heap.size, 4, none⟩)) rfl (Or.inl ⟨by rfl, fun W _ => by go_simp⟩) ?_
    go_simp
    refine trH_call rfl (by rfl) (fun K hK => ?_)
    have HK := Lib.hid hK
    clear hK
    have hb2 : BoxAt (W6.setCell ⟨w.heap.size, 2, none⟩ (.slice A1 o.ents.length c1)) w.heap.size 25 (objC o A1 c1 P d) := Hg.heap_setCell_cells HP.out.box 2 _
    have f4 := hb2.free 4
    have k4 := hb2.ten.2.2.2.2.1
    go_simp
    refine HK.out _ _ trivial ?_
    clear HK K f4 k4
    go_simp
    have HZ := Lib.hid (prez (c1 := c1) (d1 := d1) HP.out HR1.out HR2.out HSZ.out HV.out HV2.out)
    clear hb2 HP HR1 HR2 HV HV2 HSZ
    generalize ((W6.setCell ⟨w.heap.size, 2, none⟩ (.slice A1 o.ents.length c1)).setCell ⟨w.heap.size, 4, none⟩ (.slice P1 o.parents.length d1)) = W8 at *
    generalize W5.heap.size = M at *
    generalize W6.heap.size = U at *
    refine trH_done ?_
    have HS8 := Lib.hid (HF.out.under 0 _ _ HS.out HZ.out.below)
    have HC := Lib.hid (places_any W8 w.heap.size U o A1 c1 P1 d1 HZ.out.st.box (HZ.out.st.lies HZ.out.mid) HZ.out.up he hp)
    have HKD := Lib.hid (fun i (hi : i < (edgesF o).length) => plc_kind (g := w.heap.size) (A := A1) (P := P1) hi)
    go_wp2_with (go_at_call 23; refine HC.out.mono ?_; rintro r w3 ⟨⟨A2, c2, rfl, hrow⟩, hb3⟩)
    have hrow2 := plc_row hrow
    have HS3 := Lib.hid (HF.out.under 0 _ _ HS8.out (hb3.mono (Nat.le_trans (by have := HZ.out.low; have := HZ.out.mid; omega) HZ.out.up)))
    have HM := Lib.hid (ms_start HZ.out hb3 hrow2)
    have HWS := Lib.hid (show w.heap.size ≤ w3.heap.size from Nat.le_trans (by have := HZ.out.low; have := HZ.out.mid; have := HZ.out.up; omega) hb3.size)
    clear hrow hrow2 hb3 HC HS8 HZ
    go_loopg [20] (edgesF o).length (fun g' i wr => ∃ k : Nat, k ≤ j ∧ g' = (edgesF o).length - k ∧ i = .int .i64 k ∧ S k wr ∧ MS w wr M U w3.heap.size o A1 c1 P1 d1 A2 (placesF w.heap.size A1 P1 o) (mixL told (idsF o) k) ∧ w.heap.size ≤ wr.heap.size)
    case atStart => exact ⟨0, Nat.zero_le _, rfl, rfl, HS3.out, HM.out, HWS.out⟩
    case round =>
      obtain ⟨k, hkj, rfl, rfl, hsk, hms, hws⟩ := hrel
      by_cases hlt : k < (edgesF o).length
      · have h1 : (k : Int) < (edgesF o).length := by omega
        have h0 : (0 : Int) ≤ k := by omega
        have hw1 : IntKind.i64.wrap ((k : Int) + 1) = (k : Int) + 1 := IntWalk.i64_in _ (by omega)
        obtain ⟨ad2, e, hB1, hc⟩ := hms.row.recs k (by rw [placesF_len]; exact hlt)
        have m0 : wr.cell? (ad2.add (k * 2)) = some (.pointer (some ((placesF w.heap.size A1 P1 o).getD k default).ad)) := by have := hc 0 (by omega); rwa [show (ad2.add (k * 2)).add 0 = ad2.add (k * 2) from rfl] at this
        have m1 : wr.cell? ⟨(ad2.add (k * 2)).block, (ad2.add (k * 2)).off + 1, none⟩ = some (.int .i64 ((placesF w.heap.size A1 P1 o).getD k default).kd) := hc 1 (by omega)
        rw [HKD.out k hlt] at m1
        have hput := fun W (h : MS w W M U w3.heap.size o A1 c1 P1 d1 A2 (placesF w.heap.size A1 P1 o) (mixL told (idsF o) k)) => h.put (by rw [mix_len, ids_len]) hlt (told k)
        have hmk : (mixL told (idsF o) k).getD k default = ((edgesF o).getD k default).1 := by
          rw [← getD_ids o hlt]
          simp only [List.getD, mix_ge told (idsF o) k k (Nat.le_refl _)]
        rw [hmk] at hput
        have htd := fun W h1 h2 => told_any HF.out k W h1 h2 hlt
        generalize ((placesF w.heap.size A1 P1 o).getD k default).ad = qa at *
        generalize (edgesF o).getD k default = y at *
        obtain ⟨x, kd⟩ := y
        simp only at m1 hput htd
        subst e
        have HPUT := Lib.hid hput
        have HTD := Lib.hid htd
        have hba : Below wr.heap.size wr (wr.alloc (.cells #[.pointer (some qa), .int .i64 kd] 54 (0, 0))) := (Below.refl _ wr).alloc (Nat.le_refl _) _
        have HXX := Lib.hid (show S k (wr.alloc (.cells #[.pointer (some qa), .int .i64 kd] 54 (0, 0))) ∧ MS w (wr.alloc (.cells #[.pointer (some qa), .int .i64 kd] 54 (0, 0))) M U w3.heap.size o A1 c1 P1 d1 (some ad2) (placesF w.heap.size A1 P1 o) (mixL told (idsF o) k) ∧ w.heap.size ≤ (wr.alloc (.cells #[.pointer (some qa), .int .i64 kd] 54 (0, 0))).heap.size ∧ BoxAt (wr.alloc (.cells #[.pointer (some qa), .int .i64 kd] 54 (0, 0))) wr.heap.size 54 #[.pointer (some qa), .int .i64 kd] from ⟨HF.out.under _ _ _ hsk (hba.mono hws), hms.keep (Above.of hba), Nat.le_trans hws hba.size, box_new wr _ _⟩)
        have HCE := Lib.hid (edge_any _ qa kd x (HPUT.out _ HXX.out.2.1).1)
        have HJW := Lib.hid hws
        clear hc hms hsk hput htd hmk hba hws
        by_cases hkj2 : k = j
        · have q6 : (er k != 0) = true := bne_iff_ne.2 (by rw [hkj2]; exact HJ.out.2.2 (by omega))
          subst hkj2
          go_wp2_with (first
            | (go_at_call 24; refine HCE.out.mono ?_; rintro r w5 ⟨rfl, hb5⟩
               have HXX := Lib.hid (And.intro (HF.out.under _ _ _ HXX.out.1 (hb5.mono HXX.out.2.2.1)) (And.intro (HXX.out.2.1.keep (Above.of hb5)) (And.intro (Nat.le_trans HXX.out.2.2.1 hb5.size) (HXX.out.2.2.2.step hb5))))
               clear hb5)
            | (go_at_call 30; refine (HTD.out _ HXX.out.1 HXX.out.2.2.1).mono ?_; rintro r w6 ⟨rfl, hs6, ha6⟩
               have HYY := Lib.hid (And.intro hs6 (And.intro (HXX.out.2.1.keep ha6) (Nat.le_trans HXX.out.2.2.1 ha6.size)))
               have hr := HYY.out.2.1.res
               obtain ⟨r0, r1, r2, r3, r4, r5, r6, r7, r8, r9⟩ := hr.ten
               have hfr := fun i => hr.free i
               clear hs6 ha6 hr))
          have HB := Lib.hid (ten_below w6 (w.heap.size + 1) w.heap.size (by omega) (.int .i64 0) (.string ⟨#[]⟩) (.slice none 0 0) (.string ⟨#[]⟩) (.slice none 0 0) (.string ⟨#[]⟩) (.int .i64 0) (.string ⟨#[]⟩) (.string ⟨#[]⟩) (.int .i64 0))
          refine bodyPost_ret (ob_ret2 (p := 4) (u := 5) Try.results13 _ _ (w.heap.size + 1) zero none 0 none 0 rfl (ten_set rfl _ _ _ _ _ _ _ _ _ _ HYY.out.2.1.res)) rfl ⟨Nat.le_trans HYY.out.2.2 HB.out.size, fun hjn => absurd hjn (by omega), fun _ => ⟨rfl, HF.out.under _ _ _ HYY.out.1 HB.out⟩⟩
        · have q6 : (er k != 0) = false := by rw [HJ.out.2.1 k (by omega)]; rfl
          go_wp2_with (first
            | (go_at_call 24; refine HCE.out.mono ?_; rintro r w5 ⟨rfl, hb5⟩
               have HXX := Lib.hid (And.intro (HF.out.under _ _ _ HXX.out.1 (hb5.mono HXX.out.2.2.1)) (And.intro (HXX.out.2.1.keep (Above.of hb5)) (And.intro (Nat.le_trans HXX.out.2.2.1 hb5.size) (HXX.out.2.2.2.step hb5))))
               clear hb5)
            | (go_at_call 30; refine (HTD.out _ HXX.out.1 HXX.out.2.2.1).mono ?_; rintro r w6 ⟨rfl, hs6, ha6⟩
               have HYY := Lib.hid (And.intro hs6 (And.intro (HXX.out.2.1.keep ha6) (Nat.le_trans HXX.out.2.2.1 ha6.size)))
               have hbx : BoxAt w6 wr.heap.size 54 #[.pointer (some qa), .int .i64 kd] := (ha6.block _ HJW.out HXX.out.2.2.2.lt).trans HXX.out.2.2.2
               have k0 := hbx.cell 0
               obtain ⟨p2, p3, p4, p5⟩ := HPUT.out _ HYY.out.2.1
               have HP5 := Lib.hid (And.intro p4 p5)
               clear hs6 ha6 hbx p4 p5))
          go_roundg ((edgesF o).length - (k + 1))
          case rel => exact ⟨k + 1, by omega, rfl, by go_num, HF.out.under _ _ _ HYY.out.1 ((Below.refl _ _).setCell HP5.out.1 _), HP5.out.2, Nat.le_trans HYY.out.2.2 (by simp [World.setCell])⟩
          case measure => omega
      · have h1 : ¬ (k : Int) < (edgesF o).length := by omega
        have hjn : j = (edgesF o).length := by have := HJ.out.1; omega
        have hkn : k = (edgesF o).length := by have := HJ.out.1; omega
        have HN := Lib.hid (And.intro hjn (show mixL told (idsF o) k = (List.range (edgesF o).length).map told from by rw [hkn, ← ids_len, mix_all]))
        rw [HN.out.2] at hms
        have HYY := Lib.hid (And.intro hsk (And.intro hms hws))
        have HKN := Lib.hid hkn
        clear hsk hms hws hjn hkn
        have hr := HYY.out.2.1.res
        obtain ⟨r0, r1, r2, r3, r4, r5, r6, r7, r8, r9⟩ := hr.ten
        have hfr := fun i => hr.free i
        have hbx := HYY.out.2.1.st.box
        obtain ⟨o', ho'⟩ : ∃ o', withF o ((List.range (edgesF o).length).map told) = o' := ⟨_, rfl⟩
        rw [ho'] at hbx
        obtain ⟨b0, b1, b2, b3, b4, b5, b6, b7, b8, b9⟩ := hbx.ten
        clear hr hbx
        go_wp2
        have HB := Lib.hid (ten_below wr (w.heap.size + 1) w.heap.size (by omega) (.int .i64 o'.kind) (.string o'.text) (.slice A1 o'.ents.length c1) (.string o'.tree) (.slice P1 o'.parents.length d1) (.string o'.target) (.int .i64 o'.ofk) (.string o'.name) (.string o'.who) (.int .i64 o'.time))
        have HKP := Lib.hid (fun k hk => ten_kept wr (w.heap.size + 1) k hk (.int .i64 o'.kind) (.string o'.text) (.slice A1 o'.ents.length c1) (.string o'.tree) (.slice P1 o'.parents.length d1) (.string o'.target) (.int .i64 o'.ofk) (.string o'.name) (.string o'.who) (.int .i64 o'.time))
        refine bodyPost_ret (ob_ret2 (p := 4) (u := 5) Try.results13 _ _ (w.heap.size + 1) o' A1 c1 P1 d1 rfl (ten_set rfl _ _ _ _ _ _ _ _ _ _ HYY.out.2.1.res)) rfl ⟨Nat.le_trans HYY.out.2.2 HB.out.size, fun _ => ⟨A1, c1, P1, d1, M, U, by rw [ho']; rfl, ?_, ?_, ?_, by have := HYY.out.2.1.low; omega, HYY.out.2.1.mid, ?_⟩, fun hlt2 => absurd hlt2 (by have := HN.out.1; omega)⟩
        · rw [← HKN.out]; exact HF.out.under _ _ _ HYY.out.1 HB.out
        · exact (HYY.out.2.1.st.ents.keep fun g h2 _ => HKP.out g (by omega)).wider (by omega) (Nat.le_refl _)
        · exact HYY.out.2.1.st.pars.keep fun g h2 _ => HKP.out g (by have := HYY.out.2.1.low; omega)
        · exact Nat.le_trans (Nat.le_trans HYY.out.2.1.up HYY.out.2.1.top) HB.out.size

end Go.Proofs.Ytlpidedijknohaa.Hq
