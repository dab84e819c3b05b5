/-
  Layer 11, the program's side: what a content is read as, loosely (read).
-/
import Derived.Test.YtapjgdhdgpakhaaGreatDoorR3
import Derived.Test.YtapjgdhdgpakhaaGreatDoorOt
import Derived.Test.YtapjgdhdgpakhaaGreatDoorFork
import Derived.Laws.EntriesVeiled
namespace Go.Proofs.YtapjgdhdgpakhaaGreatDoor.Hj
open Go.RowKit Ob Hr
set_option linter.unusedVariables false

/-- read's own blocks: the answer, the object, what is left, the closure that takes a line -/
structure Rd (w W : World) (o : Thing) (A : Option Addr) (c : Nat) (P : Option Addr) (d : Nat) (l : List UInt8) : Prop where
  res : BoxAt W w.heap.size 25 (objC zero none 0 none 0)
  box : BoxAt W (w.heap.size + 1) 25 (objC o A c P d)
  rest : Rest W (w.heap.size + 2) l
  fn : BoxAt W (w.heap.size + 3) 75 #[FnL (w.heap.size + 2)]
  pars : W.ownsRow (w.heap.size + 4) 9 1 (.slice P o.parents.length d) o.parents.length (o.parents.flatMap stV)
  below : Below w.heap.size w W
section
variable {w W W' : World} {o o' : Thing} {A : Option Addr} {c : Nat} {P P' : Option Addr} {d d' : Nat} {l l' : List UInt8}
theorem Rd.lt (h : Rd w W o A c P d l) : w.heap.size + 3 < W.heap.size := h.fn.lt
theorem Rd.step (h : Rd w W o A c P d l) (hb : Below W.heap.size W W') : Rd w W' o A c P d l :=
  ⟨h.res.step hb, h.box.step hb, h.rest.step hb, h.fn.step hb, own_below h.pars hb, h.below.trans (hb.mono h.below.size)⟩
theorem Rd.drew (h : Rd w W o A c P d l) : Rd w W.drew o A c P d l := h.step (Below.refl _ W).drew
theorem Rd.but (h : Rd w W o A c P d l) (hb : But (w.heap.size + 2) W W') (hr : Rest W' (w.heap.size + 2) l') : Rd w W' o A c P d l' :=
  ⟨h.res.but hb (by omega), h.box.but hb (by omega), hr, h.fn.but hb (by omega), own_but h.pars hb (by omega), h.below.trans (hb.below (by omega) h.below.size)⟩
theorem Rd.put (h : Rd w W o A c P d l) (i : Nat) (u : Value) (ho : (objC o A c P d).setIfInBounds i u = objC o' A c P d) (hp : o'.parents = o.parents) : Rd w (W.setCell ⟨w.heap.size + 1, i, none⟩ u) o' A c P d l := by
  have hb := But.set W (w.heap.size + 1) i u
  refine ⟨h.res.but hb (by omega), ?_, h.rest.but hb (by omega), h.fn.but hb (by omega), by rw [hp]; exact own_but h.pars hb (by omega), h.below.trans (hb.below (by omega) h.below.size)⟩
  rw [BoxAt, ← ho]
  exact Hg.heap_setCell_cells h.box i u
theorem Rd.app (h : Rd w W o A c P d l) (hb : Below (w.heap.size + 4) W W') (hs : W.heap.size ≤ W'.heap.size) {ps : List ByteArray} (hn : W'.ownsRow (w.heap.size + 4) 9 1 (.slice P' ps.length d') ps.length (ps.flatMap stV)) : Rd w (W'.setCell ⟨w.heap.size + 1, 4, none⟩ (.slice P' ps.length d')) { o with parents := ps } A c P' d' l := by
  have hc := But.set W' (w.heap.size + 1) 4 (.slice P' ps.length d')
  have k : ∀ i, i < w.heap.size + 4 → W'.heap[i]? = W.heap[i]? := fun i hi => hb.block i hi
  have e0 : BoxAt W' w.heap.size 25 (objC zero none 0 none 0) := (k _ (by omega)).trans h.res
  have e1 : BoxAt W' (w.heap.size + 1) 25 (objC o A c P d) := (k _ (by omega)).trans h.box
  have e2 : Rest W' (w.heap.size + 2) l := (k _ (by omega)).trans h.rest
  have e3 : BoxAt W' (w.heap.size + 3) 75 #[FnL (w.heap.size + 2)] := (k _ (by omega)).trans h.fn
  have hbl : Below w.heap.size w W' := h.below.trans (hb.mono (by omega))
  exact ⟨e0.but hc (by omega), Hg.heap_setCell_cells e1 4 _, e2.but hc (by omega), e3.but hc (by omega), own_but hn hc (by omega), hbl.trans (hc.below (by omega) hbl.size)⟩
end
theorem strs_of_rows {w : World} {B : Nat} {A : Option Addr} {l : List ByteArray} (h : Recs 1 stV w B A l) : Strs w B A l := strs_of_recs h
theorem own_cap {w : World} {B e k n : Nat} {A : Option Addr} {L c : Nat} {xs : List Value} (h : w.ownsRow B e k (.slice A L c) n xs) (hn : L = n) : n ≤ c := by
  rcases h.2 with ⟨h1, h2⟩ | ⟨g, cap, cur, h1, _, _, h2, _⟩
  · omega
  · injection h1 with a1 a2 a3; omega
/-- the answer: its slices -/
theorem Rd.lies {w W : World} {o : Thing} {P : Option Addr} {d : Nat} {l : List UInt8} (h : Rd w W o none 0 P d l) (he : o.ents = []) : Lies W W.heap.size o none P ∧ o.parents.length ≤ d := by
  obtain ⟨A, c, hv, _, hr⟩ := recs_own rst_len (by omega) h.pars
  injection hv with a1 a2 a3
  subst a1
  exact ⟨⟨by rw [he]; exact recs_nil _ _ _, strs_of_rows hr⟩, own_cap h.pars rfl⟩
theorem rd_new (w : World) (o : Thing) (s : ByteArray) (hp : o.parents = []) (he : o.ents = []) : Rd w ((((w.alloc (.cells (objC zero none 0 none 0) 25 (0, 0))).alloc (.cells (objC o none 0 none 0) 25 (0, 0))).alloc (.cells #[.string s] 9 (0, 0))).alloc (.cells #[FnL (w.heap.size + 2)] 75 (0, 0))) o none 0 none 0 (bl s) := by
  have h := two_new w 25 25 (objC zero none 0 none 0) (objC o none 0 none 0)
  have s1 : ((w.alloc (.cells (objC zero none 0 none 0) 25 (0, 0))).alloc (.cells (objC o none 0 none 0) 25 (0, 0))).heap.size = w.heap.size + 2 := by simp
  have h2 := two_new ((w.alloc (.cells (objC zero none 0 none 0) 25 (0, 0))).alloc (.cells (objC o none 0 none 0) 25 (0, 0))) 9 75 #[.string s] #[FnL (w.heap.size + 2)]
  rw [s1] at h2
  have hb := h2.below
  rw [s1] at hb
  refine ⟨(hb.block _ (by omega)).trans h.a, (hb.block _ (by omega)).trans h.b, ?_, h2.b, by rw [hp]; exact World.ownsRow_nil _ _ _ _, h.below.trans (hb.mono (by omega))⟩
  rw [show Rest _ (w.heap.size + 2) (bl s) = BoxAt _ (w.heap.size + 2) 9 #[.string (str (bl s))] from rfl, str_bl]
  exact h2.a

set_option maxHeartbeats 4000000 in
set_option maxRecDepth 100000 in
theorem rsign_any (w W : World) (o : Thing) (A : Option Addr) (c : Nat) (P : Option Addr) (d : Nat) (l : List UInt8) (wd : ByteArray) (h : Rd w W o A c P d l) (hK : Kw w) (hw : wd.size ≤ 100) (hl : l.length ≤ 65536) :
    Calls Tryz.prog 64 #[.string wd, .pointer (some ⟨w.heap.size + 3, 0, none⟩), .pointer (some ⟨w.heap.size + 1, 0, none⟩)] W fun e W' => e = .returned (.tuple #[]) ∧ Rd w W' { o with who := (whoL (str (lineL (bl wd) l).1)).1, time := (whoL (str (lineL (bl wd) l).1)).2 } A c P d (lineL [] (lineL (bl wd) l).2).2 := by
  have h1 := lineL_size (bl wd) l
  have HL := Lib.hid (rline_any W (w.heap.size + 2) wd l h.rest hw (by omega))
  have HP := Lib.hid (fun W' hk => who_any (str (lineL (bl wd) l).1) W' hk (by rw [str_size]; omega))
  have HN := Lib.hid (fun W' (hr : Rest W' (w.heap.size + 2) (lineL (bl wd) l).2) => rline_any W' (w.heap.size + 2) ⟨#[]⟩ (lineL (bl wd) l).2 hr (by decide) (by omega))
  rw [show bl ⟨#[]⟩ = [] from rfl] at HN
  have HR := Lib.hid h
  have HK := Lib.hid hK
  have f0 : W.cell? ⟨w.heap.size + 3, 0, none⟩ = some (.func (.func 59) #[] #[.pointer (some ⟨w.heap.size + 2, 0, none⟩)]) := h.fn.cell 0
  clear h hK hw hl h1
  generalize (lineL (bl wd) l).1 = first at *
  generalize (lineL (bl wd) l).2 = l2 at *
  generalize (lineL [] l2).1 = f2 at *
  generalize (lineL [] l2).2 = l3 at *
  generalize str first = sf at *
  generalize (whoL sf).1 = wo at *
  generalize (whoL sf).2 = tm at *
  go_enter Tryz.func64, Tryz.ntmps64
  go_upto_region 1 with (first
    | (go_at_call 59; refine HL.out.mono ?_; rintro r W2 ⟨rfl, hr2, hb2⟩; have HR := Lib.hid (HR.out.but hb2 hr2); clear hr2 hb2)
    | (go_at_call 65; refine (HP.out _ (HK.out.under HR.out.below)).mono ?_; rintro r W3 ⟨rfl, hb3⟩; have HR := Lib.hid (HR.out.step hb3); obtain ⟨c0, c1, c2, c3, c4, c5, c6, c7, c8, c9⟩ := HR.out.box.ten; have f8 := HR.out.box.free 8; have f9 := HR.out.box.free 9; clear hb3))
  have HR2 := Lib.hid ((HR.out.put (o' := { o with who := wo }) 8 (.string wo) rfl rfl).put (o' := { o with who := wo, time := tm }) 9 (.int .i64 tm) rfl rfl)
  generalize (W3.setCell ⟨w.heap.size + 1, 8, none⟩ (.string wo)).setCell ⟨w.heap.size + 1, 9, none⟩ (.int .i64 tm) = W4 at *
  have f0 : W4.cell? ⟨w.heap.size + 3, 0, none⟩ = some (.func (.func 59) #[] #[.pointer (some ⟨w.heap.size + 2, 0, none⟩)]) := HR2.out.fn.cell 0
  go_wp2_with (go_at_call 59; refine (HN.out _ HR2.out.rest).mono ?_; rintro r W5 ⟨rfl, hr5, hb5⟩)
  go_end0
  exact ⟨rfl, HR2.out.but hb5 hr5⟩
end Go.Proofs.YtapjgdhdgpakhaaGreatDoor.Hj
