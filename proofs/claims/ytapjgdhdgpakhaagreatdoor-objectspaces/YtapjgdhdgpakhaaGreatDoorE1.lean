/-
  Layer 11, the program's side: what read answers, out of its own blocks.
  Layer 11, the program's side: what a content is read as, loosely (read).
  Layer 11, the program's side: what a commit's content is read as, loosely.
  Layer 11, the program's side: what any content is read as, loosely; it is small.
  Layer 11, the program's side: Parse.
  Layer 11: all that the laws ask of the program's package object.
-/
import Derived.Test.YtapjgdhdgpakhaaGreatDoorR4
import Derived.BigRegion
import Derived.Test.YtapjgdhdgpakhaaGreatDoorO9
import Derived.Laws.ResultCell
import Derived.Test.YtapjgdhdgpakhaaGreatDoorOj
import Derived.Test.YtapjgdhdgpakhaaGreatDoorOz
import Derived.Test.YtapjgdhdgpakhaaGreatDoorOy
import Derived.Test.YtapjgdhdgpakhaaGreatDoorO3
import Derived.Test.YtapjgdhdgpakhaaGreatDoorE0
namespace Go.Proofs.YtapjgdhdgpakhaaGreatDoor.Hj
open Go.RowKit Ob Hr
set_option linter.unusedVariables false

/-- what read answers -/
def ReadPost (w : World) (o : Thing) (e : Ending) (w' : World) : Prop := ∃ A c P d, e = .returned (.agg (objC o A c P d)) ∧ (Lies w' w'.heap.size o A P ∧ o.parents.length ≤ d) ∧ Below w.heap.size w w' ∧ (∀ a, A = some a → w.heap.size ≤ a.block) ∧ (∀ a, P = some a → w.heap.size ≤ a.block)
set_option maxHeartbeats 2000000 in
theorem read_fin (w W : World) (o : Thing) (A : Option Addr) (c : Nat) (P : Option Addr) (d : Nat) (l : List UInt8) (tmps : Array Value) (hp : tmps.getD 6 undef = .pointer (some ⟨w.heap.size, 0, none⟩)) (HR : Rd w W o A c P d l)
    (hE : W.ownsRow (w.heap.size + 4) 44 3 (.slice A o.ents.length c) o.ents.length (o.ents.flatMap entV)) :
    bodyPost Tryz.prog Tryz.f29 (fun e w' => ReadPost w o e w') Exit.ret ⟨tmps, []⟩ ((((((((((W.setCell ⟨w.heap.size, 0, none⟩ (.int .i64 o.kind)).setCell ⟨w.heap.size, 1, none⟩ (.string o.text)).setCell ⟨w.heap.size, 2, none⟩ (.slice A o.ents.length c)).setCell ⟨w.heap.size, 3, none⟩ (.string o.tree)).setCell ⟨w.heap.size, 4, none⟩ (.slice P o.parents.length d)).setCell ⟨w.heap.size, 5, none⟩ (.string o.target)).setCell ⟨w.heap.size, 6, none⟩ (.int .i64 o.ofk)).setCell ⟨w.heap.size, 7, none⟩ (.string o.name)).setCell ⟨w.heap.size, 8, none⟩ (.string o.who)).setCell ⟨w.heap.size, 9, none⟩ (.int .i64 o.time)) := by
  have hz : BoxAt W w.heap.size 25 #[.int .i64 0, .string ⟨#[]⟩, .slice none 0 0, .string ⟨#[]⟩, .slice none 0 0, .string ⟨#[]⟩, .int .i64 0, .string ⟨#[]⟩, .string ⟨#[]⟩, .int .i64 0] := HR.res
  have h0 : BoxAt (W.setCell ⟨w.heap.size, 0, none⟩ (.int .i64 o.kind)) w.heap.size 25 #[.int .i64 o.kind, .string ⟨#[]⟩, .slice none 0 0, .string ⟨#[]⟩, .slice none 0 0, .string ⟨#[]⟩, .int .i64 0, .string ⟨#[]⟩, .string ⟨#[]⟩, .int .i64 0] := Hg.heap_setCell_cells hz 0 (.int .i64 o.kind)
  have b0 : But w.heap.size W (W.setCell ⟨w.heap.size, 0, none⟩ (.int .i64 o.kind)) := But.set W w.heap.size 0 (.int .i64 o.kind)
  generalize W.setCell ⟨w.heap.size, 0, none⟩ (.int .i64 o.kind) = V0 at h0 b0 ⊢
  clear hz
  have h1 : BoxAt (V0.setCell ⟨w.heap.size, 1, none⟩ (.string o.text)) w.heap.size 25 #[.int .i64 o.kind, .string o.text, .slice none 0 0, .string ⟨#[]⟩, .slice none 0 0, .string ⟨#[]⟩, .int .i64 0, .string ⟨#[]⟩, .string ⟨#[]⟩, .int .i64 0] := Hg.heap_setCell_cells h0 1 (.string o.text)
  have b1 : But w.heap.size W (V0.setCell ⟨w.heap.size, 1, none⟩ (.string o.text)) := b0.trans (But.set V0 w.heap.size 1 (.string o.text))
  generalize V0.setCell ⟨w.heap.size, 1, none⟩ (.string o.text) = V1 at h1 b1 ⊢
  clear h0 b0
  have h2 : BoxAt (V1.setCell ⟨w.heap.size, 2, none⟩ (.slice A o.ents.length c)) w.heap.size 25 #[.int .i64 o.kind, .string o.text, .slice A o.ents.length c, .string ⟨#[]⟩, .slice none 0 0, .string ⟨#[]⟩, .int .i64 0, .string ⟨#[]⟩, .string ⟨#[]⟩, .int .i64 0] := Hg.heap_setCell_cells h1 2 (.slice A o.ents.length c)
  have b2 : But w.heap.size W (V1.setCell ⟨w.heap.size, 2, none⟩ (.slice A o.ents.length c)) := b1.trans (But.set V1 w.heap.size 2 (.slice A o.ents.length c))
  generalize V1.setCell ⟨w.heap.size, 2, none⟩ (.slice A o.ents.length c) = V2 at h2 b2 ⊢
  clear h1 b1
  have h3 : BoxAt (V2.setCell ⟨w.heap.size, 3, none⟩ (.string o.tree)) w.heap.size 25 #[.int .i64 o.kind, .string o.text, .slice A o.ents.length c, .string o.tree, .slice none 0 0, .string ⟨#[]⟩, .int .i64 0, .string ⟨#[]⟩, .string ⟨#[]⟩, .int .i64 0] := Hg.heap_setCell_cells h2 3 (.string o.tree)
  have b3 : But w.heap.size W (V2.setCell ⟨w.heap.size, 3, none⟩ (.string o.tree)) := b2.trans (But.set V2 w.heap.size 3 (.string o.tree))
  generalize V2.setCell ⟨w.heap.size, 3, none⟩ (.string o.tree) = V3 at h3 b3 ⊢
  clear h2 b2
  have h4 : BoxAt (V3.setCell ⟨w.heap.size, 4, none⟩ (.slice P o.parents.length d)) w.heap.size 25 #[.int .i64 o.kind, .string o.text, .slice A o.ents.length c, .string o.tree, .slice P o.parents.length d, .string ⟨#[]⟩, .int .i64 0, .string ⟨#[]⟩, .string ⟨#[]⟩, .int .i64 0] := Hg.heap_setCell_cells h3 4 (.slice P o.parents.length d)
  have b4 : But w.heap.size W (V3.setCell ⟨w.heap.size, 4, none⟩ (.slice P o.parents.length d)) := b3.trans (But.set V3 w.heap.size 4 (.slice P o.parents.length d))
  generalize V3.setCell ⟨w.heap.size, 4, none⟩ (.slice P o.parents.length d) = V4 at h4 b4 ⊢
  clear h3 b3
  have h5 : BoxAt (V4.setCell ⟨w.heap.size, 5, none⟩ (.string o.target)) w.heap.size 25 #[.int .i64 o.kind, .string o.text, .slice A o.ents.length c, .string o.tree, .slice P o.parents.length d, .string o.target, .int .i64 0, .string ⟨#[]⟩, .string ⟨#[]⟩, .int .i64 0] := Hg.heap_setCell_cells h4 5 (.string o.target)
  have b5 : But w.heap.size W (V4.setCell ⟨w.heap.size, 5, none⟩ (.string o.target)) := b4.trans (But.set V4 w.heap.size 5 (.string o.target))
  generalize V4.setCell ⟨w.heap.size, 5, none⟩ (.string o.target) = V5 at h5 b5 ⊢
  clear h4 b4
  have h6 : BoxAt (V5.setCell ⟨w.heap.size, 6, none⟩ (.int .i64 o.ofk)) w.heap.size 25 #[.int .i64 o.kind, .string o.text, .slice A o.ents.length c, .string o.tree, .slice P o.parents.length d, .string o.target, .int .i64 o.ofk, .string ⟨#[]⟩, .string ⟨#[]⟩, .int .i64 0] := Hg.heap_setCell_cells h5 6 (.int .i64 o.ofk)
  have b6 : But w.heap.size W (V5.setCell ⟨w.heap.size, 6, none⟩ (.int .i64 o.ofk)) := b5.trans (But.set V5 w.heap.size 6 (.int .i64 o.ofk))
  generalize V5.setCell ⟨w.heap.size, 6, none⟩ (.int .i64 o.ofk) = V6 at h6 b6 ⊢
  clear h5 b5
  have h7 : BoxAt (V6.setCell ⟨w.heap.size, 7, none⟩ (.string o.name)) w.heap.size 25 #[.int .i64 o.kind, .string o.text, .slice A o.ents.length c, .string o.tree, .slice P o.parents.length d, .string o.target, .int .i64 o.ofk, .string o.name, .string ⟨#[]⟩, .int .i64 0] := Hg.heap_setCell_cells h6 7 (.string o.name)
  have b7 : But w.heap.size W (V6.setCell ⟨w.heap.size, 7, none⟩ (.string o.name)) := b6.trans (But.set V6 w.heap.size 7 (.string o.name))
  generalize V6.setCell ⟨w.heap.size, 7, none⟩ (.string o.name) = V7 at h7 b7 ⊢
  clear h6 b6
  have h8 : BoxAt (V7.setCell ⟨w.heap.size, 8, none⟩ (.string o.who)) w.heap.size 25 #[.int .i64 o.kind, .string o.text, .slice A o.ents.length c, .string o.tree, .slice P o.parents.length d, .string o.target, .int .i64 o.ofk, .string o.name, .string o.who, .int .i64 0] := Hg.heap_setCell_cells h7 8 (.string o.who)
  have b8 : But w.heap.size W (V7.setCell ⟨w.heap.size, 8, none⟩ (.string o.who)) := b7.trans (But.set V7 w.heap.size 8 (.string o.who))
  generalize V7.setCell ⟨w.heap.size, 8, none⟩ (.string o.who) = V8 at h8 b8 ⊢
  clear h7 b7
  have h9 : BoxAt (V8.setCell ⟨w.heap.size, 9, none⟩ (.int .i64 o.time)) w.heap.size 25 #[.int .i64 o.kind, .string o.text, .slice A o.ents.length c, .string o.tree, .slice P o.parents.length d, .string o.target, .int .i64 o.ofk, .string o.name, .string o.who, .int .i64 o.time] := Hg.heap_setCell_cells h8 9 (.int .i64 o.time)
  have b9 : But w.heap.size W (V8.setCell ⟨w.heap.size, 9, none⟩ (.int .i64 o.time)) := b8.trans (But.set V8 w.heap.size 9 (.int .i64 o.time))
  generalize V8.setCell ⟨w.heap.size, 9, none⟩ (.int .i64 o.time) = V9 at h9 b9 ⊢
  clear h8 b8
  have hp2 := own_but HR.pars b9 (by omega)
  have he2 := own_but hE b9 (by omega)
  have hbl := HR.below.trans (b9.below (Nat.le_refl _) HR.below.size)
  clear b9 HR hE
  obtain ⟨A1, c1, hv1, _, hr1⟩ := recs_own rst_len (by omega) hp2
  obtain ⟨A2, c2, hv2, _, hr2⟩ := recs_own rent_len (by omega) he2
  injection hv1 with a1 a2 a3
  injection hv2 with a4 a5 a6
  subst a1
  subst a4
  exact bodyPost_ret (ob_ret (p := 6) Tryz.results29 tmps _ w.heap.size o A c P d hp h9) rfl ⟨A, c, P, d, rfl, ⟨⟨hr2, strs_of_rows hr1⟩, own_cap hp2 rfl⟩, hbl, fun a ha => by have := (he2.lt a.block (by rw [ha]; rfl)).1; omega, fun a ha => by have := (hp2.lt a.block (by rw [ha]; rfl)).1; omega⟩
end Go.Proofs.YtapjgdhdgpakhaaGreatDoor.Hj
namespace Go.Proofs.YtapjgdhdgpakhaaGreatDoor.Hj
open Go.RowKit Ob Hr
set_option linter.unusedVariables false

set_option maxHeartbeats 8000000 in
set_option maxRecDepth 100000 in
theorem readBlob_any (k : Int) (s : ByteArray) (sp : Int) (w : World) (h2 : k ≠ 2) (h3 : k ≠ 3) (h4 : k ≠ 4) :
    Calls Tryz.prog 29 #[.int .i64 k, .string s, .int .i64 sp] w fun e w' => ReadPost w { zero with kind := k, text := s } e w' := by
  have hmf : ∀ (fn : Fn) (first cap : Array Value) (w : World), (Instr.makeFunc fn first cap).run Tryz.prog w = .ok (.func fn first cap) w := fun _ _ _ _ => rfl
  have HR := Lib.hid (show Rd w ((((w.alloc (.cells #[.int .i64 0, .string ⟨#[]⟩, .slice none 0 0, .string ⟨#[]⟩, .slice none 0 0, .string ⟨#[]⟩, .int .i64 0, .string ⟨#[]⟩, .string ⟨#[]⟩, .int .i64 0] 25 (0, 0))).alloc (.cells #[.int .i64 k, .string ⟨#[]⟩, .slice none 0 0, .string ⟨#[]⟩, .slice none 0 0, .string ⟨#[]⟩, .int .i64 0, .string ⟨#[]⟩, .string ⟨#[]⟩, .int .i64 0] 25 (0, 0))).alloc (.cells #[.string s] 9 (0, 0))).alloc (.cells #[.func (.func 59) #[] #[.pointer (some ⟨w.heap.size + 1 + 1, 0, none⟩)]] 75 (0, 0))) { zero with kind := k } none 0 none 0 (bl s) from rd_new w { zero with kind := k } s rfl rfl)
  have q2 : (k == 2) = false := beq_eq_false_iff_ne.2 h2
  have q3 : (k == 3) = false := beq_eq_false_iff_ne.2 h3
  have q4 : (k == 4) = false := beq_eq_false_iff_ne.2 h4
  clear h2 h3 h4
  go_enter Tryz.func29, Tryz.ntmps29
  go_upto_region 20 with fail
  generalize (((w.alloc (.cells #[.int .i64 0, .string ⟨#[]⟩, .slice none 0 0, .string ⟨#[]⟩, .slice none 0 0, .string ⟨#[]⟩, .int .i64 0, .string ⟨#[]⟩, .string ⟨#[]⟩, .int .i64 0] 25 (0, 0))).alloc (.cells #[.int .i64 k, .string ⟨#[]⟩, .slice none 0 0, .string ⟨#[]⟩, .slice none 0 0, .string ⟨#[]⟩, .int .i64 0, .string ⟨#[]⟩, .string ⟨#[]⟩, .int .i64 0] 25 (0, 0))).alloc (.cells #[.string s] 9 (0, 0))).alloc (.cells #[.func (.func 59) #[] #[.pointer (some ⟨w.heap.size + 1 + 1, 0, none⟩)]] 75 (0, 0)) = W0 at *
  have hsb : str (bl s) = s := str_bl s
  have r0 : W0.cell? ⟨w.heap.size + 2, 0, none⟩ = some (.string s) := by have := HR.out.rest.cell 0; rw [hsb] at this; exact this
  have f1 := HR.out.box.free 1
  have k1 := HR.out.box.cell 1
  go_upto_region 21 with fail
  have HR := Lib.hid (HR.out.put (o' := { zero with kind := k, text := s }) 1 (.string s) rfl rfl)
  generalize W0.setCell ⟨w.heap.size + 1, 1, none⟩ (.string s) = W9 at *
  clear r0 f1 k1
  obtain ⟨c0, c1, c2, c3, c4, c5, c6, c7, c8, c9⟩ := HR.out.box.ten
  obtain ⟨d0, d1, d2, d3, d4, d5, d6, d7, d8, d9⟩ := HR.out.res.ten
  have fz := HR.out.res.free
  go_wp2
  exact read_fin w W9 { zero with kind := k, text := s } none 0 none 0 _ _ rfl HR.out (World.ownsRow_nil _ _ _ _)

set_option maxHeartbeats 8000000 in
set_option maxRecDepth 100000 in
theorem readTree_any (s : ByteArray) (sp : Int) (w : World) (hsp : sp = 1 ∨ sp = 2) (hs : s.size ≤ 65536) :
    Calls Tryz.prog 29 #[.int .i64 2, .string s, .int .i64 sp] w fun e w' => ReadPost w { zero with kind := 2, ents := treeL (spSize sp) (s.size + 1) (bl s) } e w' := by
  have hmf : ∀ (fn : Fn) (first cap : Array Value) (w : World), (Instr.makeFunc fn first cap).run Tryz.prog w = .ok (.func fn first cap) w := fun _ _ _ _ => rfl
  have HR := Lib.hid (show Rd w ((((w.alloc (.cells #[.int .i64 0, .string ⟨#[]⟩, .slice none 0 0, .string ⟨#[]⟩, .slice none 0 0, .string ⟨#[]⟩, .int .i64 0, .string ⟨#[]⟩, .string ⟨#[]⟩, .int .i64 0] 25 (0, 0))).alloc (.cells #[.int .i64 2, .string ⟨#[]⟩, .slice none 0 0, .string ⟨#[]⟩, .slice none 0 0, .string ⟨#[]⟩, .int .i64 0, .string ⟨#[]⟩, .string ⟨#[]⟩, .int .i64 0] 25 (0, 0))).alloc (.cells #[.string s] 9 (0, 0))).alloc (.cells #[.func (.func 59) #[] #[.pointer (some ⟨w.heap.size + 1 + 1, 0, none⟩)]] 75 (0, 0))) { zero with kind := 2 } none 0 none 0 (bl s) from rd_new w { zero with kind := 2 } s rfl rfl)
  have HZ := Lib.hid (fun W => show Calls Tryz.prog 22 #[.int .i64 sp] W fun e w' => e = .returned (.int .i64 (spSize sp)) ∧ W = w' from by
    have := Size_any sp W
    rcases hsp with rfl | rfl
    · exact this
    · exact this)
  have HE := Lib.hid (fun W => rentries_any s (spSize sp) W hs (sp_le sp))
  clear hsp hs
  generalize treeL (spSize sp) (s.size + 1) (bl s) = es at *
  generalize ((spSize sp : Nat) : Int) = sz at *
  go_enter Tryz.func29, Tryz.ntmps29
  go_upto_region 8 with fail
  generalize (((w.alloc (.cells #[.int .i64 0, .string ⟨#[]⟩, .slice none 0 0, .string ⟨#[]⟩, .slice none 0 0, .string ⟨#[]⟩, .int .i64 0, .string ⟨#[]⟩, .string ⟨#[]⟩, .int .i64 0] 25 (0, 0))).alloc (.cells #[.int .i64 2, .string ⟨#[]⟩, .slice none 0 0, .string ⟨#[]⟩, .slice none 0 0, .string ⟨#[]⟩, .int .i64 0, .string ⟨#[]⟩, .string ⟨#[]⟩, .int .i64 0] 25 (0, 0))).alloc (.cells #[.string s] 9 (0, 0))).alloc (.cells #[.func (.func 59) #[] #[.pointer (some ⟨w.heap.size + 1 + 1, 0, none⟩)]] 75 (0, 0)) = W0 at *
  go_upto_region 9 with (first
    | (go_at_call 22; refine (HZ.out _).mono ?_; rintro r w2 ⟨rfl, rfl⟩)
    | (go_at_call 66; refine (HE.out _).mono ?_; rintro r W2 ⟨A, c, rfl, ho2, hb2⟩; have HO := Lib.hid (And.intro ho2 (And.intro hb2 HR.out.lt)); have HR := Lib.hid (HR.out.step hb2); have f2 := HR.out.box.free 2; have k2 := HR.out.box.cell 2; clear ho2 hb2))
  have hset := But.set W2 (w.heap.size + 1) 2 (.slice A es.length c)
  have hown : (W2.setCell ⟨w.heap.size + 1, 2, none⟩ (.slice A es.length c)).ownsRow (w.heap.size + 4) 44 3 (.slice A es.length c) es.length (es.flatMap entV) := own_but (g := w.heap.size + 1) ⟨HO.out.1.1, HO.out.1.2.imp id fun ⟨g', cap, cur, h1, h2, h3⟩ => ⟨g', cap, cur, h1, by have := HO.out.2.2; omega, h3⟩⟩ hset (by omega)
  have HOW := Lib.hid hown
  have HR := Lib.hid (show Rd w (W2.setCell ⟨w.heap.size + 1, 2, none⟩ (.slice A es.length c)) { zero with kind := 2, ents := es } A c none 0 (bl s) from by
    have h := HR.out
    refine ⟨h.res.but hset (by omega), ?_, h.rest.but hset (by omega), h.fn.but hset (by omega), own_but h.pars hset (by omega), h.below.trans (hset.below (by omega) h.below.size)⟩
    exact Hg.heap_setCell_cells h.box 2 (.slice A es.length c))
  clear hset hown
  generalize W2.setCell ⟨w.heap.size + 1, 2, none⟩ (.slice A es.length c) = W9 at *
  obtain ⟨c0, c1, c2, c3, c4, c5, c6, c7, c8, c9⟩ := HR.out.box.ten
  obtain ⟨d0, d1, d2, d3, d4, d5, d6, d7, d8, d9⟩ := HR.out.res.ten
  have fz := HR.out.res.free
  go_wp2
  exact read_fin w W9 { zero with kind := 2, ents := es } A c none 0 _ _ rfl HR.out HOW.out

set_option maxHeartbeats 8000000 in
set_option maxRecDepth 100000 in
theorem readTag_any (s : ByteArray) (sp : Int) (w : World) (hK : Kw w) (hs : s.size ≤ 65536) :
    Calls Tryz.prog 29 #[.int .i64 4, .string s, .int .i64 sp] w fun e w' => ReadPost w (tagL (bl s)) e w' := by
  have hmf : ∀ (fn : Fn) (first cap : Array Value) (w : World), (Instr.makeFunc fn first cap).run Tryz.prog w = .ok (.func fn first cap) w := fun _ _ _ _ => rfl
  have HR := Lib.hid (show Rd w ((((w.alloc (.cells #[.int .i64 0, .string ⟨#[]⟩, .slice none 0 0, .string ⟨#[]⟩, .slice none 0 0, .string ⟨#[]⟩, .int .i64 0, .string ⟨#[]⟩, .string ⟨#[]⟩, .int .i64 0] 25 (0, 0))).alloc (.cells #[.int .i64 4, .string ⟨#[]⟩, .slice none 0 0, .string ⟨#[]⟩, .slice none 0 0, .string ⟨#[]⟩, .int .i64 0, .string ⟨#[]⟩, .string ⟨#[]⟩, .int .i64 0] 25 (0, 0))).alloc (.cells #[.string s] 9 (0, 0))).alloc (.cells #[.func (.func 59) #[] #[.pointer (some ⟨w.heap.size + 1 + 1, 0, none⟩)]] 75 (0, 0))) { zero with kind := 4 } none 0 none 0 (bl s) from rd_new w { zero with kind := 4 } s rfl rfl)
  have hbl := bl_length s
  have z1 := namedL_size wObject (bl s)
  have z2 := lineL_size wType (namedL wObject (bl s)).2
  have z3 := lineL_size wTag (lineL wType (namedL wObject (bl s)).2).2
  have HN := Lib.hid (fun W (hr : Rest W (w.heap.size + 2) (bl s)) (hf : BoxAt W (w.heap.size + 3) 75 #[FnL (w.heap.size + 2)]) => rnamed_any W (w.heap.size + 2) (w.heap.size + 3) ⟨#[111, 98, 106, 101, 99, 116]⟩ (bl s) hr hf (by decide) (by omega))
  rw [show bl ⟨#[111, 98, 106, 101, 99, 116]⟩ = wObject from rfl] at HN
  have HT := Lib.hid (fun W (hr : Rest W (w.heap.size + 2) (namedL wObject (bl s)).2) => rline_any W (w.heap.size + 2) ⟨#[116, 121, 112, 101]⟩ (namedL wObject (bl s)).2 hr (by decide) (by omega))
  rw [show bl ⟨#[116, 121, 112, 101]⟩ = wType from rfl] at HT
  have HG := Lib.hid (fun W (hr : Rest W (w.heap.size + 2) (lineL wType (namedL wObject (bl s)).2).2) => rline_any W (w.heap.size + 2) ⟨#[116, 97, 103]⟩ (lineL wType (namedL wObject (bl s)).2).2 hr (by decide) (by omega))
  rw [show bl ⟨#[116, 97, 103]⟩ = wTag from rfl] at HG
  have HKD := Lib.hid (fun W => pkind_any (str (lineL wType (namedL wObject (bl s)).2).1) W)
  have HSI := Lib.hid (fun W o' P d (h : Rd w W o' none 0 P d (lineL wTag (lineL wType (namedL wObject (bl s)).2).2).2) => rsign_any w W o' none 0 P d (lineL wTag (lineL wType (namedL wObject (bl s)).2).2).2 ⟨#[116, 97, 103, 103, 101, 114]⟩ h hK (by decide) (by omega))
  rw [show bl ⟨#[116, 97, 103, 103, 101, 114]⟩ = wTagger from rfl] at HSI
  have HTL := Lib.hid (show tagL (bl s) = endL { zero with kind := 4, target := (namedL wObject (bl s)).1, ofk := Idf.kindF (str (lineL wType (namedL wObject (bl s)).2).1), name := str (lineL wTag (lineL wType (namedL wObject (bl s)).2).2).1 } wTagger (lineL wTag (lineL wType (namedL wObject (bl s)).2).2).2 from rfl)
  unfold endL at HTL
  rw [HTL.out]
  clear hK hs hbl z1 z2 z3 HTL
  generalize Idf.kindF (str (lineL wType (namedL wObject (bl s)).2).1) = ok at *
  generalize str (lineL wType (namedL wObject (bl s)).2).1 = sty at *
  generalize str (lineL wTag (lineL wType (namedL wObject (bl s)).2).2).1 = nm at *
  generalize (lineL wTag (lineL wType (namedL wObject (bl s)).2).2).2 = l3 at *
  generalize (lineL wType (namedL wObject (bl s)).2).2 = l2 at *
  generalize (namedL wObject (bl s)).2 = l1 at *
  generalize (namedL wObject (bl s)).1 = tg at *
  generalize (whoL (str (lineL wTagger l3).1)).1 = wo at *
  generalize (whoL (str (lineL wTagger l3).1)).2 = tm at *
  generalize (lineL [] (lineL wTagger l3).2).2 = l4 at *
  show Calls Tryz.prog 29 _ w fun e w' => ReadPost w ⟨4, str l4, [], ⟨#[]⟩, [], tg, ok, nm, wo, tm⟩ e w'
  go_enter Tryz.func29, Tryz.ntmps29
  go_upto_region 16 with fail
  generalize (((w.alloc (.cells #[.int .i64 0, .string ⟨#[]⟩, .slice none 0 0, .string ⟨#[]⟩, .slice none 0 0, .string ⟨#[]⟩, .int .i64 0, .string ⟨#[]⟩, .string ⟨#[]⟩, .int .i64 0] 25 (0, 0))).alloc (.cells #[.int .i64 4, .string ⟨#[]⟩, .slice none 0 0, .string ⟨#[]⟩, .slice none 0 0, .string ⟨#[]⟩, .int .i64 0, .string ⟨#[]⟩, .string ⟨#[]⟩, .int .i64 0] 25 (0, 0))).alloc (.cells #[.string s] 9 (0, 0))).alloc (.cells #[.func (.func 59) #[] #[.pointer (some ⟨w.heap.size + 1 + 1, 0, none⟩)]] 75 (0, 0)) = W0 at *
  go_upto_region 17 with (go_at_call 62; refine (HN.out _ HR.out.rest HR.out.fn).mono ?_; rintro r W2 ⟨rfl, hr2, hb2⟩; have HR := Lib.hid (HR.out.but hb2 hr2); have f5 := HR.out.box.free 5; have k5 := HR.out.box.cell 5; clear hr2 hb2)
  have HR := Lib.hid (HR.out.put (o' := { zero with kind := 4, target := tg }) 5 (.string tg) rfl rfl)
  generalize W2.setCell ⟨w.heap.size + 1, 5, none⟩ (.string tg) = W3 at *
  have g0 : W3.cell? ⟨w.heap.size + 3, 0, none⟩ = some (.func (.func 59) #[] #[.pointer (some ⟨w.heap.size + 2, 0, none⟩)]) := HR.out.fn.cell 0
  clear f5 k5
  go_upto_region 18 with (first
    | (go_at_call 59; refine (HT.out _ HR.out.rest).mono ?_; rintro r W4 ⟨rfl, hr4, hb4⟩; have HR := Lib.hid (HR.out.but hb4 hr4); have f6 := HR.out.box.free 6; have k6 := HR.out.box.cell 6; clear hr4 hb4)
    | (go_at_call 68; refine (HKD.out _).mono ?_; rintro r W5 ⟨rfl, rfl⟩))
  have HR := Lib.hid (HR.out.put (o' := { zero with kind := 4, target := tg, ofk := ok }) 6 (.int .i64 ok) rfl rfl)
  generalize W4.setCell ⟨w.heap.size + 1, 6, none⟩ (.int .i64 ok) = W6 at *
  have g1 : W6.cell? ⟨w.heap.size + 3, 0, none⟩ = some (.func (.func 59) #[] #[.pointer (some ⟨w.heap.size + 2, 0, none⟩)]) := HR.out.fn.cell 0
  clear f6 k6 g0
  go_upto_region 19 with (go_at_call 59; refine (HG.out _ HR.out.rest).mono ?_; rintro r W7 ⟨rfl, hr7, hb7⟩; have HR := Lib.hid (HR.out.but hb7 hr7); have f7 := HR.out.box.free 7; have k7 := HR.out.box.cell 7; clear hr7 hb7)
  have HR := Lib.hid (HR.out.put (o' := { zero with kind := 4, target := tg, ofk := ok, name := nm }) 7 (.string nm) rfl rfl)
  generalize W7.setCell ⟨w.heap.size + 1, 7, none⟩ (.string nm) = W8 at *
  clear f7 k7 g1
  go_upto_region 20 with (go_at_call 64; refine (HSI.out _ _ _ _ HR.out).mono ?_; rintro r Wa ⟨rfl, hra⟩; have HR := Lib.hid (show Rd w Wa ⟨4, ⟨#[]⟩, [], ⟨#[]⟩, [], tg, ok, nm, wo, tm⟩ none 0 none 0 l4 from hra); clear hra)
  have r0 := HR.out.rest.cell 0
  have f1 := HR.out.box.free 1
  have k1 := HR.out.box.cell 1
  go_upto_region 21 with fail
  have HR := Lib.hid (HR.out.put (o' := ⟨4, str l4, [], ⟨#[]⟩, [], tg, ok, nm, wo, tm⟩) 1 (.string (str (l4))) rfl rfl)
  generalize Wa.setCell ⟨w.heap.size + 1, 1, none⟩ (.string (str (l4))) = W9 at *
  clear r0 f1 k1
  obtain ⟨c0, c1, c2, c3, c4, c5, c6, c7, c8, c9⟩ := HR.out.box.ten
  obtain ⟨d0, d1, d2, d3, d4, d5, d6, d7, d8, d9⟩ := HR.out.res.ten
  have fz := HR.out.res.free
  go_wp2
  exact read_fin w W9 ⟨4, str l4, [], ⟨#[]⟩, [], tg, ok, nm, wo, tm⟩ none 0 none 0 _ _ rfl HR.out (World.ownsRow_nil _ _ _ _)
end Go.Proofs.YtapjgdhdgpakhaaGreatDoor.Hj
namespace Go.Proofs.YtapjgdhdgpakhaaGreatDoor.Hj
open Go.RowKit Ob Hr
set_option linter.unusedVariables false
theorem parsL_no {f : Nat} {l : List UInt8} (h : Lib.hasPrefix l (wParent ++ [32]) = false) : parsL f l = ([], l) := by
  cases f with
  | zero => rfl
  | succ f => rw [parsL, h]; rfl
theorem parsL_yes {f : Nat} {l : List UInt8} (h : Lib.hasPrefix l (wParent ++ [32]) = true) : parsL (f + 1) l = ((namedL wParent l).1 :: (parsL f (namedL wParent l).2).1, (parsL f (namedL wParent l).2).2) := by
  rw [parsL, if_pos h]

set_option maxHeartbeats 8000000 in
set_option maxRecDepth 100000 in
theorem readCommit_any (s : ByteArray) (sp : Int) (w : World) (hK : Kw w) (hs : s.size ≤ 65536) :
    Calls Tryz.prog 29 #[.int .i64 3, .string s, .int .i64 sp] w fun e w' => ReadPost w (commitL (bl s)) e w' := by
  have hmf : ∀ (fn : Fn) (first cap : Array Value) (w : World), (Instr.makeFunc fn first cap).run Tryz.prog w = .ok (.func fn first cap) w := fun _ _ _ _ => rfl
  have HR := Lib.hid (show Rd w ((((w.alloc (.cells #[.int .i64 0, .string ⟨#[]⟩, .slice none 0 0, .string ⟨#[]⟩, .slice none 0 0, .string ⟨#[]⟩, .int .i64 0, .string ⟨#[]⟩, .string ⟨#[]⟩, .int .i64 0] 25 (0, 0))).alloc (.cells #[.int .i64 3, .string ⟨#[]⟩, .slice none 0 0, .string ⟨#[]⟩, .slice none 0 0, .string ⟨#[]⟩, .int .i64 0, .string ⟨#[]⟩, .string ⟨#[]⟩, .int .i64 0] 25 (0, 0))).alloc (.cells #[.string s] 9 (0, 0))).alloc (.cells #[.func (.func 59) #[] #[.pointer (some ⟨w.heap.size + 1 + 1, 0, none⟩)]] 75 (0, 0))) { zero with kind := 3 } none 0 none 0 (bl s) from rd_new w { zero with kind := 3 } s rfl rfl)
  have hbl := bl_length s
  have z1 := namedL_size wTree (bl s)
  have z2 := parsL_size ((namedL wTree (bl s)).2.length + 1) (namedL wTree (bl s)).2
  obtain ⟨i0, E⟩ := rst_elem
  have HEL := Lib.hid E
  have HN := Lib.hid (fun W (hr : Rest W (w.heap.size + 2) (bl s)) (hf : BoxAt W (w.heap.size + 3) 75 #[FnL (w.heap.size + 2)]) => rnamed_any W (w.heap.size + 2) (w.heap.size + 3) ⟨#[116, 114, 101, 101]⟩ (bl s) hr hf (by decide) (by omega))
  rw [show bl ⟨#[116, 114, 101, 101]⟩ = wTree from rfl] at HN
  have HM := Lib.hid (fun W l (hl : l.length ≤ 65536) (hr : Rest W (w.heap.size + 2) l) (hf : BoxAt W (w.heap.size + 3) 75 #[FnL (w.heap.size + 2)]) => rnamed_any W (w.heap.size + 2) (w.heap.size + 3) ⟨#[112, 97, 114, 101, 110, 116]⟩ l hr hf (by decide) (by omega))
  rw [show bl ⟨#[112, 97, 114, 101, 110, 116]⟩ = wParent from rfl] at HM
  have HHP := Lib.hid (fun W (l : List UInt8) => show Calls Tryz.prog 67 #[.string (str l), .string ⟨#[112, 97, 114, 101, 110, 116, 32]⟩] W fun e w' => e = .returned (.bool (Lib.hasPrefix l (wParent ++ [32]))) ∧ w' = W from by
    have := Tryz.strings_HasPrefix (str l) ⟨#[112, 97, 114, 101, 110, 116, 32]⟩ W
    rw [show (str l).data.toList = l from bl_str _, show (⟨#[112, 97, 114, 101, 110, 116, 32]⟩ : ByteArray).data.toList = wParent ++ [32] from rfl] at this
    exact this)
  have HTL := Lib.hid (show commitL (bl s) = endL { zero with kind := 3, tree := (namedL wTree (bl s)).1, parents := (parsL ((namedL wTree (bl s)).2.length + 1) (namedL wTree (bl s)).2).1 } wAuthor (parsL ((namedL wTree (bl s)).2.length + 1) (namedL wTree (bl s)).2).2 from rfl)
  unfold endL at HTL
  rw [HTL.out]
  clear HTL
  have hq0 : (namedL wTree (bl s)).2.length ≤ s.size := by omega
  generalize (namedL wTree (bl s)).2 = q0 at *
  generalize (namedL wTree (bl s)).1 = tr at *
  generalize hpr : parsL (q0.length + 1) q0 = pr at *
  have HP0 := Lib.hid hpr
  obtain ⟨PS, lE⟩ := pr
  have hPS : PS.length ≤ 65536 := by have := z2.1; dsimp only at this; omega
  have hlE : lE.length ≤ 65536 := by have := z2.2.1; dsimp only at this; omega
  clear z1 z2 hpr
  dsimp only
  have HSI := Lib.hid (fun W o' P d (h : Rd w W o' none 0 P d lE) => rsign_any w W o' none 0 P d lE ⟨#[97, 117, 116, 104, 111, 114]⟩ h hK (by decide) hlE)
  rw [show bl ⟨#[97, 117, 116, 104, 111, 114]⟩ = wAuthor from rfl] at HSI
  clear hlE hK
  generalize (whoL (str (lineL wAuthor lE).1)).1 = wo at *
  generalize (whoL (str (lineL wAuthor lE).1)).2 = tm at *
  generalize (lineL [] (lineL wAuthor lE).2).2 = l4 at *
  show Calls Tryz.prog 29 _ w fun e w' => ReadPost w ⟨3, str l4, [], tr, PS, ⟨#[]⟩, 0, ⟨#[]⟩, wo, tm⟩ e w'
  go_enter Tryz.func29, Tryz.ntmps29
  go_upto_region 11 with fail
  generalize (((w.alloc (.cells #[.int .i64 0, .string ⟨#[]⟩, .slice none 0 0, .string ⟨#[]⟩, .slice none 0 0, .string ⟨#[]⟩, .int .i64 0, .string ⟨#[]⟩, .string ⟨#[]⟩, .int .i64 0] 25 (0, 0))).alloc (.cells #[.int .i64 3, .string ⟨#[]⟩, .slice none 0 0, .string ⟨#[]⟩, .slice none 0 0, .string ⟨#[]⟩, .int .i64 0, .string ⟨#[]⟩, .string ⟨#[]⟩, .int .i64 0] 25 (0, 0))).alloc (.cells #[.string s] 9 (0, 0))).alloc (.cells #[.func (.func 59) #[] #[.pointer (some ⟨w.heap.size + 1 + 1, 0, none⟩)]] 75 (0, 0)) = W0 at *
  go_upto_region 12 with (go_at_call 62; refine (HN.out _ HR.out.rest HR.out.fn).mono ?_; rintro r W2 ⟨rfl, hr2, hb2⟩; have HR := Lib.hid (HR.out.but hb2 hr2); have f3 := HR.out.box.free 3; have k3 := HR.out.box.cell 3; clear hr2 hb2)
  have HR := Lib.hid (show Rd w (W2.setCell ⟨w.heap.size + 1, 3, none⟩ (.string tr)) ⟨3, ⟨#[]⟩, [], tr, [], ⟨#[]⟩, 0, ⟨#[]⟩, ⟨#[]⟩, 0⟩ none 0 none 0 q0 from HR.out.put (o' := ⟨3, ⟨#[]⟩, [], tr, [], ⟨#[]⟩, 0, ⟨#[]⟩, ⟨#[]⟩, 0⟩) 3 (.string tr) rfl rfl)
  generalize W2.setCell ⟨w.heap.size + 1, 3, none⟩ (.string tr) = W3 at *
  clear f3 k3
  go_loopg [] q0.length (fun g wr => ∃ (f : Nat) (acc : List ByteArray) (rest : List UInt8) (P : Option Addr) (d : Nat), rest.length < f ∧ g = rest.length ∧ rest.length ≤ s.size ∧ Rd w wr (⟨3, ⟨#[]⟩, [], tr, acc, ⟨#[]⟩, 0, ⟨#[]⟩, ⟨#[]⟩, 0⟩ : Thing) none 0 P d rest ∧ (PS, lE) = (acc ++ (parsL f rest).1, (parsL f rest).2))
  case atStart => exact ⟨q0.length + 1, [], q0, none, 0, by omega, rfl, hq0, HR.out, by rw [HP0.out]; rfl⟩
  case round =>
    obtain ⟨f, acc, rest, P, d, hf, rfl, hrl, hr, hT⟩ := hrel
    clear HR
    have HR := Lib.hid hr
    have HT := Lib.hid hT
    have c0 := hr.rest.cell 0
    clear hr hT
    have HH := Lib.hid (fun W => HHP.out W rest)
    clear HHP
    cases hhp : Lib.hasPrefix rest (wParent ++ [32])
    · have HQ := Lib.hid (show PS = acc ∧ lE = rest from by
        have h := HT.out
        rw [parsL_no hhp, List.append_nil] at h
        injection h with a b
        exact ⟨a, b⟩)
      rw [hhp] at HH
      clear hhp HT
      obtain ⟨rfl, rfl⟩ := HQ.out
      go_upto_region 20 with (first
        | (go_at_call 67; refine (HH.out _).mono ?_; rintro r w2 ⟨rfl, rfl⟩)
        | (go_at_call 64; refine (HSI.out _ _ _ _ HR.out).mono ?_; rintro r Wa ⟨rfl, hra⟩; have HR := Lib.hid (show Rd w Wa ⟨3, ⟨#[]⟩, [], tr, PS, ⟨#[]⟩, 0, ⟨#[]⟩, wo, tm⟩ none 0 P d l4 from hra); clear hra))
      clear c0
      have r0 := HR.out.rest.cell 0
      have f1 := HR.out.box.free 1
      have k1 := HR.out.box.cell 1
      go_upto_region 21 with fail
      have HR := Lib.hid (HR.out.put (o' := ⟨3, str l4, [], tr, PS, ⟨#[]⟩, 0, ⟨#[]⟩, wo, tm⟩) 1 (.string (str (l4))) rfl rfl)
      generalize Wa.setCell ⟨w.heap.size + 1, 1, none⟩ (.string (str (l4))) = W9 at *
      clear r0 f1 k1
      obtain ⟨c0, c1, c2, c3, c4, c5, c6, c7, c8, c9⟩ := HR.out.box.ten
      obtain ⟨d0, d1, d2, d3, d4, d5, d6, d7, d8, d9⟩ := HR.out.res.ten
      have fz := HR.out.res.free
      go_wp2
      exact read_fin w W9 ⟨3, str l4, [], tr, PS, ⟨#[]⟩, 0, ⟨#[]⟩, wo, tm⟩ none 0 P d _ _ rfl HR.out (World.ownsRow_nil _ _ _ _)
    · obtain ⟨f', rfl⟩ : ∃ f', f = f' + 1 := ⟨f - 1, by omega⟩
      have hne : rest ≠ [] := fun e => by rw [e] at hhp; cases hhp
      have h3 := (namedL_size wParent rest).2.2 hne
      have HTS := Lib.hid (show (PS, lE) = (acc ++ (namedL wParent rest).1 :: (parsL f' (namedL wParent rest).2).1, (parsL f' (namedL wParent rest).2).2) from by rw [HT.out, parsL_yes hhp])
      rw [hhp] at HH
      have HM1 := Lib.hid (fun W hr hf => HM.out W rest (by omega) hr hf)
      have hacc : acc.length ≤ 65536 := by
        have h := HTS.out
        injection h with a b
        have : PS.length = acc.length + (1 + (parsL f' (namedL wParent rest).2).1.length) := by rw [a, List.length_append, List.length_cons]; omega
        omega
      clear hhp HT hne HM
      generalize (namedL wParent rest).1 = p1 at *
      generalize (namedL wParent rest).2 = q1 at *
      go_upto_region 13 with (go_at_call 67; refine (HH.out _).mono ?_; rintro r w2 ⟨rfl, rfl⟩)
      have k4 := HR.out.box.cell 4
      clear HSI c0 k4
      have HR := Lib.hid HR.out.drew
      refine wp_region_tree (fun _ => True) (.take 0 0 (.take 2 1 (.fork 1 3 5 (.call 3 7 (.call 4 15 (.call 5 31 (.take 6 63 (.call 7 127 .done))))) (.fork 1 4 13 (.call 4 15 (.call 5 31 (.take 6 63 (.call 7 127 .done)))) (.call 1 29 (.call 5 31 (.take 6 63 (.call 7 127 .done)))))))) 8 (by kernel_rfl) (by kernel_rfl) (by kernel_rfl) (fun d _ _ _ _ h => by cases d <;> exact h) (by kernel_rfl) trivial ?_
      generalize w2.drew = V at *
      refine trH_take (.pointer (some ⟨w.heap.size + 1, 4, none⟩)) rfl (Or.inl ⟨by rfl, fun W _ => by go_simp⟩) ?_
      go_simp
      refine trH_take (.func (.func 62) #[] #[.pointer (some ⟨w.heap.size + 1 + 1 + 1, 0, none⟩)]) rfl (Or.inl ⟨by rfl, fun W _ => by go_simp⟩) ?_
      go_simp
      refine trH_fork rfl (by rfl) rfl (by rfl) (fun K hK => ?_) (fun K hK => ?_)
      · have HK := Lib.hid hK
        clear hK
        have k4 : V.cell? ⟨w.heap.size + 1, 4, none⟩ = some (.slice P acc.length d) := HR.out.box.ten.2.2.2.2.1
        go_simp
        refine HK.out _ _ trivial ?_
        clear HK K k4
        go_simp
        refine trH_call rfl (by rfl) (fun K hK => ?_)
        have HK := Lib.hid hK
        clear hK
        go_simp
        refine (HM1.out _ HR.out.rest HR.out.fn).mono ?_
        rintro r W5 ⟨rfl, hr5, hb5⟩
        have HR := Lib.hid (HR.out.but hb5 hr5)
        clear hr5 hb5
        refine HK.out _ _ trivial ?_
        clear HK K
        go_simp
        refine trH_call rfl (by rfl) (fun K hK => ?_)
        have HK := Lib.hid hK
        clear hK
        go_simp
        have HB := Lib.hid (rone_st W5 p1)
        have HR := Lib.hid (HR.out.step ((Below.refl _ W5).alloc (Nat.le_refl _) (.cells #[.string p1] 9)))
        refine HK.out _ _ trivial ?_
        clear HK K
        generalize W5.alloc (.cells #[.string p1] 9) = W6 at *
        generalize W5.heap.size = g5 at *
        go_simp
        refine trH_call rfl (by rfl) (fun K hK => ?_)
        have HK := Lib.hid hK
        clear hK
        obtain ⟨v1, y1, hrun1, ho1, hg1, _⟩ := app_recs HEL.out rst_len rst_one W6 (w.heap.size + 4) (.slice P acc.length d) acc [p1] (some ⟨g5, 0, none⟩) 1 _ 23 HR.out.pars HB.out (by omega) (by simp) (by have := HR.out.lt; omega)
        have hb1 : Below (w.heap.size + 4) W6 y1 := (Below.refl _ W6).grown hg1 (by have := HR.out.lt; omega) (fun i hi => (HR.out.pars.lt i hi).1)
        obtain ⟨ps, hps⟩ : ∃ ps, acc ++ [p1] = ps := ⟨_, rfl⟩
        rw [hps] at ho1
        obtain ⟨A1, c1, rfl⟩ := rown_strs ho1
        have HRUN1 := Lib.hid hrun1
        simp only [List.length_cons, List.length_nil, Nat.zero_add] at HRUN1
        have HE := Lib.hid (HR.out.app hb1 hb1.size ho1)
        have HBX := Lib.hid (show BoxAt y1 (w.heap.size + 1) 25 _ from (hb1.block _ (by omega)).trans HR.out.box)
        clear hrun1 hg1 ho1 hb1
        unfold Oper.wp
        simp [execOp, resolve, invoke, builtin, Act.eval, HRUN1.out, Result.andThen, Oper.upon]
        refine HK.out _ _ trivial ?_
        clear HK K HRUN1
        go_simp
        refine trH_take (.pointer (some ⟨w.heap.size + 1, 4, none⟩)) rfl (Or.inl ⟨by rfl, fun W _ => by go_simp⟩) ?_
        go_simp
        refine trH_call rfl (by rfl) (fun K hK => ?_)
        have HK := Lib.hid hK
        clear hK
        have f4 := HBX.out.free 4
        have k4 := HBX.out.cell 4
        go_simp
        refine HK.out _ _ trivial ?_
        clear HK K f4 k4
        go_simp
        refine trH_done ?_
        go_wp2
        go_roundg q1.length
        case rel => exact ⟨f', ps, q1, A1, c1, by omega, rfl, by omega, HE.out, by rw [HTS.out, ← hps, List.append_assoc]; rfl⟩
        case measure => omega
      · have HK := Lib.hid hK
        clear hK
        go_simp
        refine (HM1.out _ HR.out.rest HR.out.fn).mono ?_
        rintro r W5 ⟨rfl, hr5, hb5⟩
        have HR := Lib.hid (HR.out.but hb5 hr5)
        clear hr5 hb5
        refine HK.out _ _ trivial ?_
        clear HK K
        go_simp
        refine trH_fork rfl (by rfl) rfl (by rfl) (fun K hK => ?_) (fun K hK => ?_)
        · have HK := Lib.hid hK
          clear hK
          have k4 : W5.cell? ⟨w.heap.size + 1, 4, none⟩ = some (.slice P acc.length d) := HR.out.box.ten.2.2.2.2.1
          go_simp
          refine HK.out _ _ trivial ?_
          clear HK K k4
          go_simp
          refine trH_call rfl (by rfl) (fun K hK => ?_)
          have HK := Lib.hid hK
          clear hK
          go_simp
          have HB := Lib.hid (rone_st W5 p1)
          have HR := Lib.hid (HR.out.step ((Below.refl _ W5).alloc (Nat.le_refl _) (.cells #[.string p1] 9)))
          refine HK.out _ _ trivial ?_
          clear HK K
          generalize W5.alloc (.cells #[.string p1] 9) = W6 at *
          generalize W5.heap.size = g5 at *
          go_simp
          refine trH_call rfl (by rfl) (fun K hK => ?_)
          have HK := Lib.hid hK
          clear hK
          obtain ⟨v1, y1, hrun1, ho1, hg1, _⟩ := app_recs HEL.out rst_len rst_one W6 (w.heap.size + 4) (.slice P acc.length d) acc [p1] (some ⟨g5, 0, none⟩) 1 _ 23 HR.out.pars HB.out (by omega) (by simp) (by have := HR.out.lt; omega)
          have hb1 : Below (w.heap.size + 4) W6 y1 := (Below.refl _ W6).grown hg1 (by have := HR.out.lt; omega) (fun i hi => (HR.out.pars.lt i hi).1)
          obtain ⟨ps, hps⟩ : ∃ ps, acc ++ [p1] = ps := ⟨_, rfl⟩
          rw [hps] at ho1
          obtain ⟨A1, c1, rfl⟩ := rown_strs ho1
          have HRUN1 := Lib.hid hrun1
          simp only [List.length_cons, List.length_nil, Nat.zero_add] at HRUN1
          have HE := Lib.hid (HR.out.app hb1 hb1.size ho1)
          have HBX := Lib.hid (show BoxAt y1 (w.heap.size + 1) 25 _ from (hb1.block _ (by omega)).trans HR.out.box)
          clear hrun1 hg1 ho1 hb1
          unfold Oper.wp
          simp [execOp, resolve, invoke, builtin, Act.eval, HRUN1.out, Result.andThen, Oper.upon]
          refine HK.out _ _ trivial ?_
          clear HK K HRUN1
          go_simp
          refine trH_take (.pointer (some ⟨w.heap.size + 1, 4, none⟩)) rfl (Or.inl ⟨by rfl, fun W _ => by go_simp⟩) ?_
          go_simp
          refine trH_call rfl (by rfl) (fun K hK => ?_)
          have HK := Lib.hid hK
          clear hK
          have f4 := HBX.out.free 4
          have k4 := HBX.out.cell 4
          go_simp
          refine HK.out _ _ trivial ?_
          clear HK K f4 k4
          go_simp
          refine trH_done ?_
          go_wp2
          go_roundg q1.length
          case rel => exact ⟨f', ps, q1, A1, c1, by omega, rfl, by omega, HE.out, by rw [HTS.out, ← hps, List.append_assoc]; rfl⟩
          case measure => omega
        · have HK := Lib.hid hK
          clear hK
          go_simp
          have HB := Lib.hid (rone_st W5 p1)
          have HR := Lib.hid (HR.out.step ((Below.refl _ W5).alloc (Nat.le_refl _) (.cells #[.string p1] 9)))
          refine HK.out _ _ trivial ?_
          clear HK K
          generalize W5.alloc (.cells #[.string p1] 9) = W6 at *
          generalize W5.heap.size = g5 at *
          go_simp
          refine trH_call rfl (by rfl) (fun K hK => ?_)
          have HK := Lib.hid hK
          clear hK
          have k4 : W6.cell? ⟨w.heap.size + 1, 4, none⟩ = some (.slice P acc.length d) := HR.out.box.ten.2.2.2.2.1
          go_simp
          refine HK.out _ _ trivial ?_
          clear HK K k4
          go_simp
          refine trH_call rfl (by rfl) (fun K hK => ?_)
          have HK := Lib.hid hK
          clear hK
          obtain ⟨v1, y1, hrun1, ho1, hg1, _⟩ := app_recs HEL.out rst_len rst_one W6 (w.heap.size + 4) (.slice P acc.length d) acc [p1] (some ⟨g5, 0, none⟩) 1 _ 23 HR.out.pars HB.out (by omega) (by simp) (by have := HR.out.lt; omega)
          have hb1 : Below (w.heap.size + 4) W6 y1 := (Below.refl _ W6).grown hg1 (by have := HR.out.lt; omega) (fun i hi => (HR.out.pars.lt i hi).1)
          obtain ⟨ps, hps⟩ : ∃ ps, acc ++ [p1] = ps := ⟨_, rfl⟩
          rw [hps] at ho1
          obtain ⟨A1, c1, rfl⟩ := rown_strs ho1
          have HRUN1 := Lib.hid hrun1
          simp only [List.length_cons, List.length_nil, Nat.zero_add] at HRUN1
          have HE := Lib.hid (HR.out.app hb1 hb1.size ho1)
          have HBX := Lib.hid (show BoxAt y1 (w.heap.size + 1) 25 _ from (hb1.block _ (by omega)).trans HR.out.box)
          clear hrun1 hg1 ho1 hb1
          unfold Oper.wp
          simp [execOp, resolve, invoke, builtin, Act.eval, HRUN1.out, Result.andThen, Oper.upon]
          refine HK.out _ _ trivial ?_
          clear HK K HRUN1
          go_simp
          refine trH_take (.pointer (some ⟨w.heap.size + 1, 4, none⟩)) rfl (Or.inl ⟨by rfl, fun W _ => by go_simp⟩) ?_
          go_simp
          refine trH_call rfl (by rfl) (fun K hK => ?_)
          have HK := Lib.hid hK
          clear hK
          have f4 := HBX.out.free 4
          have k4 := HBX.out.cell 4
          go_simp
          refine HK.out _ _ trivial ?_
          clear HK K f4 k4
          go_simp
          refine trH_done ?_
          go_wp2
          go_roundg q1.length
          case rel => exact ⟨f', ps, q1, A1, c1, by omega, rfl, by omega, HE.out, by rw [HTS.out, ← hps, List.append_assoc]; rfl⟩
          case measure => omega
end Go.Proofs.YtapjgdhdgpakhaaGreatDoor.Hj
namespace Go.Proofs.YtapjgdhdgpakhaaGreatDoor.Hj
open Go.RowKit Ob Hr
set_option linter.unusedVariables false

theorem read_any (k : Int) (s : ByteArray) (sp : Int) (w : World) (hK : Kw w) (hsp : sp = 1 ∨ sp = 2) (hs : s.size ≤ 65536) :
    Calls Tryz.prog 29 #[.int .i64 k, .string s, .int .i64 sp] w fun e w' => ReadPost w (readL k (bl s) (spSize sp)) e w' := by
  unfold readL
  by_cases h2 : k = 2
  · subst h2
    rw [if_pos rfl, bl_length]
    exact readTree_any s sp w hsp hs
  · rw [if_neg h2]
    by_cases h3 : k = 3
    · subst h3
      rw [if_pos rfl]
      exact readCommit_any s sp w hK hs
    · rw [if_neg h3]
      by_cases h4 : k = 4
      · subst h4
        rw [if_pos rfl]
        exact readTag_any s sp w hK hs
      · rw [if_neg h4, str_bl]
        exact readBlob_any k s sp w h2 h3 h4
theorem endL_fit {o : Thing} (w l : List UInt8) (h : Fit o) (hl : l.length ≤ 65536) : Fit (endL o w l) := by
  have h1 := lineL_size w l
  have h2 := lineL_size [] (lineL w l).2
  have h3 := whoL_size (str (lineL w l).1)
  rw [str_size] at h3
  exact ⟨by show (str (lineL [] (lineL w l).2).2).size ≤ _; rw [str_size]; omega, h.ents, h.tree, h.pars, h.target, h.name, by show (whoL _).1.size ≤ _; omega, h.ent, h.par⟩
theorem readL_fit (k : Int) (l : List UInt8) (size : Nat) (hl : l.length ≤ 65536) : Fit (readL k l size) := by
  unfold readL
  split
  · have h := treeL_size size (l.length + 1) l
    exact ⟨Nat.zero_le _, by show (treeL size (l.length + 1) l).length ≤ _; omega, Nat.zero_le _, Nat.zero_le _, Nat.zero_le _, Nat.zero_le _, Nat.zero_le _, fun e he => by have := h.2 e he; omega, fun p hp => (by cases hp)⟩
  · split
    · have h1 := namedL_size wTree l
      have h2 := parsL_size ((namedL wTree l).2.length + 1) (namedL wTree l).2
      exact endL_fit _ _ ⟨Nat.zero_le _, Nat.zero_le _, by show (namedL wTree l).1.size ≤ _; omega, by show (parsL ((namedL wTree l).2.length + 1) (namedL wTree l).2).1.length ≤ _; omega, Nat.zero_le _, Nat.zero_le _, Nat.zero_le _, fun e he => (by cases he), fun p hp => by have := h2.2.2 p hp; omega⟩ (by omega)
    · split
      · have h1 := namedL_size wObject l
        have h2 := lineL_size wType (namedL wObject l).2
        have h3 := lineL_size wTag (lineL wType (namedL wObject l).2).2
        exact endL_fit _ _ ⟨Nat.zero_le _, Nat.zero_le _, Nat.zero_le _, Nat.zero_le _, by show (namedL wObject l).1.size ≤ _; omega, by show (str (lineL wTag (lineL wType (namedL wObject l).2).2).1).size ≤ _; rw [str_size]; omega, Nat.zero_le _, fun e he => (by cases he), fun p hp => (by cases hp)⟩ (by omega)
      · exact ⟨by show (str l).size ≤ _; rw [str_size]; omega, Nat.zero_le _, Nat.zero_le _, Nat.zero_le _, Nat.zero_le _, Nat.zero_le _, Nat.zero_le _, fun e he => (by cases he), fun p hp => (by cases hp)⟩
end Go.Proofs.YtapjgdhdgpakhaaGreatDoor.Hj
namespace Go.Proofs.YtapjgdhdgpakhaaGreatDoor.Hj
open Go.RowKit Ob Hr
set_option linter.unusedVariables false

theorem results_cell_row2 {P : Program} {fn : Func} {p u : Tmp} {ty : TypeId} (h : fn.results = #[.cell p ty, .tmp u]) (tmps : Array Value) (w : World) (g : Nat) (t : TypeId) (cs : Array Value) (fr : Nat × Nat) (d : TypeDesc)
    (hp : tmps.getD p undef = .pointer (some ⟨g, 0, none⟩)) (hg : w.heap[g]? = some (.cells cs t fr))
    (hu : P.underlying ty = some d) (hd : (match d with | .struct _ | .array _ _ => true | _ => false) = true) (hi : (P.info? ty).map (·.size) = some cs.size) :
    (results fn tmps).run P w = .ok (.tuple #[.agg cs, tmps.getD u undef]) w := by
  rw [results_cell_tmp h, hp]
  simp [asAddr, Result.andThen, run_loadVar_row w g t ty cs fr d hg hu hd hi]

def ParsePost (w : World) (r : Thing × Int) (e : Ending) (w' : World) : Prop := ∃ A c P d, e = .returned (.tuple #[.agg (objC r.1 A c P d), .int .i64 r.2]) ∧ (Lies w' w'.heap.size r.1 A P ∧ r.1.parents.length ≤ d) ∧ Below w.heap.size w w'
theorem But.cell {g : Nat} {w w' : World} (h : But g w w') {a : Addr} (hl : a.block < w.heap.size) (hn : a.block ≠ g) : w'.cell? a = w.cell? a := by
  simp only [World.cell?, h.block a.block hl hn]
theorem Lies.but {g : Nat} {w w' : World} {o : Thing} {A P : Option Addr} (h : Lies w w.heap.size o A P) (hb : But g w w') (hA : ∀ a, A = some a → a.block ≠ g) (hP : ∀ a, P = some a → a.block ≠ g) : Lies w' w'.heap.size o A P := by
  refine ⟨fun i hi => ?_, fun i hi => ?_⟩
  · obtain ⟨ad, e, hlt, hc⟩ := h.ents i hi
    exact ⟨ad, e, Nat.lt_of_lt_of_le hlt hb.size, fun j hj => by rw [hb.cell (by rw [block_of_add, block_of_add]; exact hlt) (by rw [block_of_add, block_of_add]; exact hA ad e)]; exact hc j hj⟩
  · obtain ⟨ad, e, hlt, hc⟩ := h.pars i hi
    exact ⟨ad, e, Nat.lt_of_lt_of_le hlt hb.size, by rw [hb.cell (by rw [block_of_add]; exact hlt) (by rw [block_of_add]; exact hP ad e)]; exact hc⟩
/-- what stands behind read: the answer's block, empty yet; the object's own -/
structure Cd (w W : World) (o : Thing) (A P : Option Addr) (d : Nat) : Prop where
  lies : Lies W W.heap.size o A P ∧ o.parents.length ≤ d
  below : Below w.heap.size w W
  nul : BoxAt W w.heap.size 25 #[.int .i64 0, .string ⟨#[]⟩, .slice none 0 0, .string ⟨#[]⟩, .slice none 0 0, .string ⟨#[]⟩, .int .i64 0, .string ⟨#[]⟩, .string ⟨#[]⟩, .int .i64 0]
  farA : ∀ a, A = some a → a.block ≠ w.heap.size
  farP : ∀ a, P = some a → a.block ≠ w.heap.size
theorem Cd.step {w W W' : World} {o : Thing} {A P : Option Addr} {d : Nat} (h : Cd w W o A P d) (hb : Below W.heap.size W W') : Cd w W' o A P d :=
  ⟨⟨h.lies.1.step hb, h.lies.2⟩, h.below.trans (hb.mono h.below.size), h.nul.step hb, h.farA, h.farP⟩
theorem Cd.nil {w W : World} {o : Thing} {A P : Option Addr} {d : Nat} (h : Cd w W o A P d) : Cd w W zero none none 0 :=
  ⟨⟨lies_nil _ _ _ rfl rfl _ _, Nat.le_refl _⟩, h.below, h.nul, fun a e => by (cases e), fun a e => by (cases e)⟩

set_option maxHeartbeats 2000000 in
theorem parse_fin (w W : World) (r : Thing × Int) (A : Option Addr) (c : Nat) (P : Option Addr) (d : Nat) (tmps : Array Value) (hp : tmps.getD 6 undef = .pointer (some ⟨w.heap.size, 0, none⟩)) (h7 : tmps.getD 7 undef = .int .i64 r.2) (H : Cd w W r.1 A P d) :
    bodyPost Tryz.prog Tryz.f12 (fun e w' => ParsePost w r e w') Exit.ret ⟨tmps, []⟩ ((((((((((W.setCell ⟨w.heap.size, 0, none⟩ (.int .i64 r.1.kind)).setCell ⟨w.heap.size, 1, none⟩ (.string r.1.text)).setCell ⟨w.heap.size, 2, none⟩ (.slice A r.1.ents.length c)).setCell ⟨w.heap.size, 3, none⟩ (.string r.1.tree)).setCell ⟨w.heap.size, 4, none⟩ (.slice P r.1.parents.length d)).setCell ⟨w.heap.size, 5, none⟩ (.string r.1.target)).setCell ⟨w.heap.size, 6, none⟩ (.int .i64 r.1.ofk)).setCell ⟨w.heap.size, 7, none⟩ (.string r.1.name)).setCell ⟨w.heap.size, 8, none⟩ (.string r.1.who)).setCell ⟨w.heap.size, 9, none⟩ (.int .i64 r.1.time)) := by
  have hz := H.nul
  have h0 : BoxAt (W.setCell ⟨w.heap.size, 0, none⟩ (.int .i64 r.1.kind)) w.heap.size 25 #[.int .i64 r.1.kind, .string ⟨#[]⟩, .slice none 0 0, .string ⟨#[]⟩, .slice none 0 0, .string ⟨#[]⟩, .int .i64 0, .string ⟨#[]⟩, .string ⟨#[]⟩, .int .i64 0] := Hg.heap_setCell_cells hz 0 (.int .i64 r.1.kind)
  have b0 : But w.heap.size W (W.setCell ⟨w.heap.size, 0, none⟩ (.int .i64 r.1.kind)) := But.set W w.heap.size 0 (.int .i64 r.1.kind)
  generalize W.setCell ⟨w.heap.size, 0, none⟩ (.int .i64 r.1.kind) = V0 at h0 b0 ⊢
  clear hz
  have h1 : BoxAt (V0.setCell ⟨w.heap.size, 1, none⟩ (.string r.1.text)) w.heap.size 25 #[.int .i64 r.1.kind, .string r.1.text, .slice none 0 0, .string ⟨#[]⟩, .slice none 0 0, .string ⟨#[]⟩, .int .i64 0, .string ⟨#[]⟩, .string ⟨#[]⟩, .int .i64 0] := Hg.heap_setCell_cells h0 1 (.string r.1.text)
  have b1 : But w.heap.size W (V0.setCell ⟨w.heap.size, 1, none⟩ (.string r.1.text)) := b0.trans (But.set V0 w.heap.size 1 (.string r.1.text))
  generalize V0.setCell ⟨w.heap.size, 1, none⟩ (.string r.1.text) = V1 at h1 b1 ⊢
  clear h0 b0
  have h2 : BoxAt (V1.setCell ⟨w.heap.size, 2, none⟩ (.slice A r.1.ents.length c)) w.heap.size 25 #[.int .i64 r.1.kind, .string r.1.text, .slice A r.1.ents.length c, .string ⟨#[]⟩, .slice none 0 0, .string ⟨#[]⟩, .int .i64 0, .string ⟨#[]⟩, .string ⟨#[]⟩, .int .i64 0] := Hg.heap_setCell_cells h1 2 (.slice A r.1.ents.length c)
  have b2 : But w.heap.size W (V1.setCell ⟨w.heap.size, 2, none⟩ (.slice A r.1.ents.length c)) := b1.trans (But.set V1 w.heap.size 2 (.slice A r.1.ents.length c))
  generalize V1.setCell ⟨w.heap.size, 2, none⟩ (.slice A r.1.ents.length c) = V2 at h2 b2 ⊢
  clear h1 b1
  have h3 : BoxAt (V2.setCell ⟨w.heap.size, 3, none⟩ (.string r.1.tree)) w.heap.size 25 #[.int .i64 r.1.kind, .string r.1.text, .slice A r.1.ents.length c, .string r.1.tree, .slice none 0 0, .string ⟨#[]⟩, .int .i64 0, .string ⟨#[]⟩, .string ⟨#[]⟩, .int .i64 0] := Hg.heap_setCell_cells h2 3 (.string r.1.tree)
  have b3 : But w.heap.size W (V2.setCell ⟨w.heap.size, 3, none⟩ (.string r.1.tree)) := b2.trans (But.set V2 w.heap.size 3 (.string r.1.tree))
  generalize V2.setCell ⟨w.heap.size, 3, none⟩ (.string r.1.tree) = V3 at h3 b3 ⊢
  clear h2 b2
  have h4 : BoxAt (V3.setCell ⟨w.heap.size, 4, none⟩ (.slice P r.1.parents.length d)) w.heap.size 25 #[.int .i64 r.1.kind, .string r.1.text, .slice A r.1.ents.length c, .string r.1.tree, .slice P r.1.parents.length d, .string ⟨#[]⟩, .int .i64 0, .string ⟨#[]⟩, .string ⟨#[]⟩, .int .i64 0] := Hg.heap_setCell_cells h3 4 (.slice P r.1.parents.length d)
  have b4 : But w.heap.size W (V3.setCell ⟨w.heap.size, 4, none⟩ (.slice P r.1.parents.length d)) := b3.trans (But.set V3 w.heap.size 4 (.slice P r.1.parents.length d))
  generalize V3.setCell ⟨w.heap.size, 4, none⟩ (.slice P r.1.parents.length d) = V4 at h4 b4 ⊢
  clear h3 b3
  have h5 : BoxAt (V4.setCell ⟨w.heap.size, 5, none⟩ (.string r.1.target)) w.heap.size 25 #[.int .i64 r.1.kind, .string r.1.text, .slice A r.1.ents.length c, .string r.1.tree, .slice P r.1.parents.length d, .string r.1.target, .int .i64 0, .string ⟨#[]⟩, .string ⟨#[]⟩, .int .i64 0] := Hg.heap_setCell_cells h4 5 (.string r.1.target)
  have b5 : But w.heap.size W (V4.setCell ⟨w.heap.size, 5, none⟩ (.string r.1.target)) := b4.trans (But.set V4 w.heap.size 5 (.string r.1.target))
  generalize V4.setCell ⟨w.heap.size, 5, none⟩ (.string r.1.target) = V5 at h5 b5 ⊢
  clear h4 b4
  have h6 : BoxAt (V5.setCell ⟨w.heap.size, 6, none⟩ (.int .i64 r.1.ofk)) w.heap.size 25 #[.int .i64 r.1.kind, .string r.1.text, .slice A r.1.ents.length c, .string r.1.tree, .slice P r.1.parents.length d, .string r.1.target, .int .i64 r.1.ofk, .string ⟨#[]⟩, .string ⟨#[]⟩, .int .i64 0] := Hg.heap_setCell_cells h5 6 (.int .i64 r.1.ofk)
  have b6 : But w.heap.size W (V5.setCell ⟨w.heap.size, 6, none⟩ (.int .i64 r.1.ofk)) := b5.trans (But.set V5 w.heap.size 6 (.int .i64 r.1.ofk))
  generalize V5.setCell ⟨w.heap.size, 6, none⟩ (.int .i64 r.1.ofk) = V6 at h6 b6 ⊢
  clear h5 b5
  have h7 : BoxAt (V6.setCell ⟨w.heap.size, 7, none⟩ (.string r.1.name)) w.heap.size 25 #[.int .i64 r.1.kind, .string r.1.text, .slice A r.1.ents.length c, .string r.1.tree, .slice P r.1.parents.length d, .string r.1.target, .int .i64 r.1.ofk, .string r.1.name, .string ⟨#[]⟩, .int .i64 0] := Hg.heap_setCell_cells h6 7 (.string r.1.name)
  have b7 : But w.heap.size W (V6.setCell ⟨w.heap.size, 7, none⟩ (.string r.1.name)) := b6.trans (But.set V6 w.heap.size 7 (.string r.1.name))
  generalize V6.setCell ⟨w.heap.size, 7, none⟩ (.string r.1.name) = V7 at h7 b7 ⊢
  clear h6 b6
  have h8 : BoxAt (V7.setCell ⟨w.heap.size, 8, none⟩ (.string r.1.who)) w.heap.size 25 #[.int .i64 r.1.kind, .string r.1.text, .slice A r.1.ents.length c, .string r.1.tree, .slice P r.1.parents.length d, .string r.1.target, .int .i64 r.1.ofk, .string r.1.name, .string r.1.who, .int .i64 0] := Hg.heap_setCell_cells h7 8 (.string r.1.who)
  have b8 : But w.heap.size W (V7.setCell ⟨w.heap.size, 8, none⟩ (.string r.1.who)) := b7.trans (But.set V7 w.heap.size 8 (.string r.1.who))
  generalize V7.setCell ⟨w.heap.size, 8, none⟩ (.string r.1.who) = V8 at h8 b8 ⊢
  clear h7 b7
  have h9 : BoxAt (V8.setCell ⟨w.heap.size, 9, none⟩ (.int .i64 r.1.time)) w.heap.size 25 #[.int .i64 r.1.kind, .string r.1.text, .slice A r.1.ents.length c, .string r.1.tree, .slice P r.1.parents.length d, .string r.1.target, .int .i64 r.1.ofk, .string r.1.name, .string r.1.who, .int .i64 r.1.time] := Hg.heap_setCell_cells h8 9 (.int .i64 r.1.time)
  have b9 : But w.heap.size W (V8.setCell ⟨w.heap.size, 9, none⟩ (.int .i64 r.1.time)) := b8.trans (But.set V8 w.heap.size 9 (.int .i64 r.1.time))
  generalize V8.setCell ⟨w.heap.size, 9, none⟩ (.int .i64 r.1.time) = V9 at h9 b9 ⊢
  clear h8 b8
  have hbl := H.below.trans (b9.below (Nat.le_refl _) H.below.size)
  have hli : Lies V9 V9.heap.size r.1 A P := H.lies.1.but b9 H.farA H.farP
  have hr := results_cell_row2 (fn := Tryz.f12) (p := 6) (u := 7) (P := Tryz.prog) Tryz.results12 tmps V9 w.heap.size 25 (objC r.1 A c P d) (0, 0) _ hp h9 Tryz.underlying25 rfl ob_size
  rw [h7] at hr
  exact bodyPost_ret hr rfl ⟨A, c, P, d, rfl, ⟨hli, H.lies.2⟩, hbl⟩

theorem parse_nil (w W : World) (n : Int) (tmps : Array Value) (hp : tmps.getD 6 undef = .pointer (some ⟨w.heap.size, 0, none⟩)) (h7 : tmps.getD 7 undef = .int .i64 n) (H : Cd w W zero none none 0) :
    bodyPost Tryz.prog Tryz.f12 (fun e w' => ParsePost w (zero, n) e w') Exit.ret ⟨tmps, []⟩ W := by
  have hr := results_cell_row2 (fn := Tryz.f12) (p := 6) (u := 7) (P := Tryz.prog) Tryz.results12 tmps W w.heap.size 25 (objC zero none 0 none 0) (0, 0) _ hp H.nul Tryz.underlying25 rfl ob_size
  rw [h7] at hr
  exact bodyPost_ret hr rfl ⟨none, 0, none, 0, rfl, H.lies, H.below⟩
theorem Cd.nil0 (w : World) : Cd w (w.alloc (.cells #[.int .i64 0, .string ⟨#[]⟩, .slice none 0 0, .string ⟨#[]⟩, .slice none 0 0, .string ⟨#[]⟩, .int .i64 0, .string ⟨#[]⟩, .string ⟨#[]⟩, .int .i64 0] 25)) zero none none 0 :=
  ⟨⟨lies_nil _ _ _ rfl rfl _ _, Nat.le_refl _⟩, (Below.refl _ w).alloc (Nat.le_refl _) _, box_new w 25 #[.int .i64 0, .string ⟨#[]⟩, .slice none 0 0, .string ⟨#[]⟩, .slice none 0 0, .string ⟨#[]⟩, .int .i64 0, .string ⟨#[]⟩, .string ⟨#[]⟩, .int .i64 0], fun a e => by (cases e), fun a e => by (cases e)⟩
set_option maxHeartbeats 8000000 in
set_option maxRecDepth 100000 in
theorem pparse_any (k : Int) (s : ByteArray) (sp : Int) (w : World) (hK : Kw w) (hs : s.size ≤ 100000) :
    Calls Tryz.prog 12 #[.int .i64 k, .string s, .int .i64 sp] w fun e w' => ParsePost w (parseF k (bl s) sp) e w' := by
  have HZ := Lib.hid (fun W => Size_any sp W)
  have HW := Lib.hid (fun W => pword_any k W)
  have hwe : (Idf.word k).toList.isEmpty = !(decide (1 ≤ k) && decide (k ≤ 4)) := by rw [← word_empty]; cases (Idf.word k).toList <;> rfl
  have hbl := bl_length s
  by_cases hsp : sp = 1 ∨ sp = 2
  · rw [show (if sp = 1 then (20 : Int) else if sp = 2 then 32 else 0) = (spSize sp : Nat) from by rcases hsp with rfl | rfl <;> rfl] at HZ
    have hN : ((spSize sp : Nat) : Int) ≠ 0 := by rcases hsp with rfl | rfl <;> decide
    have q0 : (((spSize sp : Nat) : Int) == 0) = false := beq_eq_false_iff_ne.2 hN
    by_cases hkk : 1 ≤ k ∧ k ≤ 4
    · rw [decide_eq_true hkk.1, decide_eq_true hkk.2] at hwe
      by_cases hz : s.size ≤ 65536
      · have HF := Lib.hid (readL_fit k (bl s) (spSize sp) (by omega))
        have hba : Below w.heap.size w (w.alloc (.cells #[.int .i64 0, .string ⟨#[]⟩, .slice none 0 0, .string ⟨#[]⟩, .slice none 0 0, .string ⟨#[]⟩, .int .i64 0, .string ⟨#[]⟩, .string ⟨#[]⟩, .int .i64 0] 25)) := (Below.refl _ w).alloc (Nat.le_refl _) _
        have HRD := Lib.hid (read_any k s sp (w.alloc (.cells #[.int .i64 0, .string ⟨#[]⟩, .slice none 0 0, .string ⟨#[]⟩, .slice none 0 0, .string ⟨#[]⟩, .int .i64 0, .string ⟨#[]⟩, .string ⟨#[]⟩, .int .i64 0] 25)) (hK.under hba) hsp hz)
        have HB0 := Lib.hid (And.intro hba (box_new w 25 #[.int .i64 0, .string ⟨#[]⟩, .slice none 0 0, .string ⟨#[]⟩, .slice none 0 0, .string ⟨#[]⟩, .int .i64 0, .string ⟨#[]⟩, .string ⟨#[]⟩, .int .i64 0]))
        clear hba
        have hPY := @parse_yes k (bl s) sp
        have hPN := parse_no (k := k) hsp hkk (c := bl s) (by omega)
        rw [str_bl] at hPY hPN
        have i1 : ¬ (65536 : Int) < s.size := by omega
        have HK := Lib.hid hK
        generalize readL k (bl s) (spSize sp) = o at *
        have HPR := Lib.hid (fun A c P d W hk h1 h2 => pprint_any o A c P d sp W hk h1 HF.out h2)
        by_cases hp : printF o sp = (s, 0)
        · have HE := Lib.hid (hPY hp)
          rw [HE.out]
          rw [hp] at HPR
          have hss : (s.toList != s.toList) = false := by simp
          clear hPY hPN hK hs hbl hsp hN hkk hz HF hp HE
          generalize ((spSize sp : Nat) : Int) = sz at *
          generalize Idf.word k = wd at *
          go_enter Tryz.func12, Tryz.ntmps12
          go_wp2_with (first
            | (go_at_call 22; refine (HZ.out _).mono ?_; rintro r w2 ⟨rfl, rfl⟩)
            | (go_at_call 23; refine (HW.out _).mono ?_; rintro r w3 ⟨rfl, rfl⟩)
            | (go_at_call 29; refine HRD.out.mono ?_; rintro r w4 ⟨A, c, P, d, rfl, hl4, hb4, hA4, hP4⟩; have HX := Lib.hid (show Cd w w4 o A P d from ⟨hl4, HB0.out.1.trans (hb4.mono (by simp)), HB0.out.2.step hb4, fun a e => by have := hA4 a e; simp at this; omega, fun a e => by have := hP4 a e; simp at this; omega⟩); have HB := Lib.hid (box_new w4 25 (objC o A c P d)); have HX := Lib.hid (HX.out.step ((Below.refl _ w4).alloc (Nat.le_refl _) (.cells (objC o A c P d) 25))); obtain ⟨c0, c1, c2, c3, c4, c5, c6, c7, c8, c9⟩ := HB.out.ten; clear hl4 hb4 hA4 hP4)
            | (go_at_call 10; refine (HPR.out A c P d _ (HK.out.under HX.out.below) HX.out.lies.1 HX.out.lies.2).mono ?_; rintro r w5 ⟨rfl, hb5⟩; have HX := Lib.hid (HX.out.step hb5); have HB := Lib.hid (HB.out.step hb5); clear c0 c1 c2 c3 c4 c5 c6 c7 c8 c9; obtain ⟨c0, c1, c2, c3, c4, c5, c6, c7, c8, c9⟩ := HB.out.ten; obtain ⟨d0, d1, d2, d3, d4, d5, d6, d7, d8, d9⟩ := (show BoxAt w5 w.heap.size 25 (objC zero none 0 none 0) from HX.out.nul).ten; have fz := HX.out.nul.free; clear hb5))
          exact parse_fin w w5 (o, 0) A c P d _ rfl rfl HX.out
        · have HE := Lib.hid (hPN hp)
          rw [HE.out]
          by_cases hp2 : (printF o sp).2 = 0
          · have hp1 : (printF o sp).1 ≠ s := fun e => hp (Prod.ext e hp2)
            rw [hp2] at HPR
            generalize (printF o sp).1 = s1 at *
            have q1 := str_bne hp1
            clear hPY hPN hK hs hbl hsp hN hkk hz HF hp HE hp2 hp1
            generalize ((spSize sp : Nat) : Int) = sz at *
            generalize Idf.word k = wd at *
            go_enter Tryz.func12, Tryz.ntmps12
            go_wp2_with (first
            | (go_at_call 22; refine (HZ.out _).mono ?_; rintro r w2 ⟨rfl, rfl⟩)
            | (go_at_call 23; refine (HW.out _).mono ?_; rintro r w3 ⟨rfl, rfl⟩)
            | (go_at_call 29; refine HRD.out.mono ?_; rintro r w4 ⟨A, c, P, d, rfl, hl4, hb4, hA4, hP4⟩; have HX := Lib.hid (show Cd w w4 o A P d from ⟨hl4, HB0.out.1.trans (hb4.mono (by simp)), HB0.out.2.step hb4, fun a e => by have := hA4 a e; simp at this; omega, fun a e => by have := hP4 a e; simp at this; omega⟩); have HB := Lib.hid (box_new w4 25 (objC o A c P d)); have HX := Lib.hid (HX.out.step ((Below.refl _ w4).alloc (Nat.le_refl _) (.cells (objC o A c P d) 25))); obtain ⟨c0, c1, c2, c3, c4, c5, c6, c7, c8, c9⟩ := HB.out.ten; clear hl4 hb4 hA4 hP4)
            | (go_at_call 10; refine (HPR.out A c P d _ (HK.out.under HX.out.below) HX.out.lies.1 HX.out.lies.2).mono ?_; rintro r w5 ⟨rfl, hb5⟩; have HX := Lib.hid (HX.out.step hb5); have HB := Lib.hid (HB.out.step hb5); clear c0 c1 c2 c3 c4 c5 c6 c7 c8 c9; obtain ⟨c0, c1, c2, c3, c4, c5, c6, c7, c8, c9⟩ := HB.out.ten; obtain ⟨d0, d1, d2, d3, d4, d5, d6, d7, d8, d9⟩ := (show BoxAt w5 w.heap.size 25 (objC zero none 0 none 0) from HX.out.nul).ten; have fz := HX.out.nul.free; clear hb5))
            exact parse_fin w w5 (zero, 3) none 0 none 0 _ rfl rfl HX.out.nil
          · generalize (printF o sp).1 = s1 at *
            generalize (printF o sp).2 = er at *
            have q1 : (er == 0) = false := beq_eq_false_iff_ne.2 hp2
            clear hPY hPN hK hs hbl hsp hN hkk hz HF hp HE
            generalize ((spSize sp : Nat) : Int) = sz at *
            generalize Idf.word k = wd at *
            go_enter Tryz.func12, Tryz.ntmps12
            go_wp2_with (first
            | (go_at_call 22; refine (HZ.out _).mono ?_; rintro r w2 ⟨rfl, rfl⟩)
            | (go_at_call 23; refine (HW.out _).mono ?_; rintro r w3 ⟨rfl, rfl⟩)
            | (go_at_call 29; refine HRD.out.mono ?_; rintro r w4 ⟨A, c, P, d, rfl, hl4, hb4, hA4, hP4⟩; have HX := Lib.hid (show Cd w w4 o A P d from ⟨hl4, HB0.out.1.trans (hb4.mono (by simp)), HB0.out.2.step hb4, fun a e => by have := hA4 a e; simp at this; omega, fun a e => by have := hP4 a e; simp at this; omega⟩); have HB := Lib.hid (box_new w4 25 (objC o A c P d)); have HX := Lib.hid (HX.out.step ((Below.refl _ w4).alloc (Nat.le_refl _) (.cells (objC o A c P d) 25))); obtain ⟨c0, c1, c2, c3, c4, c5, c6, c7, c8, c9⟩ := HB.out.ten; clear hl4 hb4 hA4 hP4)
            | (go_at_call 10; refine (HPR.out A c P d _ (HK.out.under HX.out.below) HX.out.lies.1 HX.out.lies.2).mono ?_; rintro r w5 ⟨rfl, hb5⟩; have HX := Lib.hid (HX.out.step hb5); have HB := Lib.hid (HB.out.step hb5); clear c0 c1 c2 c3 c4 c5 c6 c7 c8 c9; obtain ⟨c0, c1, c2, c3, c4, c5, c6, c7, c8, c9⟩ := HB.out.ten; obtain ⟨d0, d1, d2, d3, d4, d5, d6, d7, d8, d9⟩ := (show BoxAt w5 w.heap.size 25 (objC zero none 0 none 0) from HX.out.nul).ten; have fz := HX.out.nul.free; clear hb5))
            exact parse_fin w w5 (zero, 3) none 0 none 0 _ rfl rfl HX.out.nil
      · have HE := Lib.hid (show parseF k (bl s) sp = (zero, 9) from by rw [parseF, if_neg (not_not_intro hsp), if_neg (not_not_intro hkk), if_pos (by omega)])
        rw [HE.out]
        have i1 : (65536 : Int) < s.size := by omega
        clear hK hs hbl hsp hN hkk hz HE
        generalize ((spSize sp : Nat) : Int) = sz at *
        generalize Idf.word k = wd at *
        go_enter Tryz.func12, Tryz.ntmps12
        go_wp2_with (first
          | (go_at_call 22; refine (HZ.out _).mono ?_; rintro r w2 ⟨rfl, rfl⟩)
          | (go_at_call 23; refine (HW.out _).mono ?_; rintro r w3 ⟨rfl, rfl⟩))
        exact parse_nil w _ 9 _ rfl rfl (Cd.nil0 w)
    · have hw2 : (decide (1 ≤ k) && decide (k ≤ 4)) = false := by rw [← Bool.not_eq_true, Bool.and_eq_true, decide_eq_true_eq, decide_eq_true_eq]; exact hkk
      rw [hw2] at hwe
      have HE := Lib.hid (show parseF k (bl s) sp = (zero, 4) from by rw [parseF, if_neg (not_not_intro hsp), if_pos hkk])
      rw [HE.out]
      clear hK hs hbl hsp hN hkk hw2 HE
      generalize ((spSize sp : Nat) : Int) = sz at *
      generalize Idf.word k = wd at *
      go_enter Tryz.func12, Tryz.ntmps12
      go_wp2_with (first
        | (go_at_call 22; refine (HZ.out _).mono ?_; rintro r w2 ⟨rfl, rfl⟩)
        | (go_at_call 23; refine (HW.out _).mono ?_; rintro r w3 ⟨rfl, rfl⟩))
      exact parse_nil w _ 4 _ rfl rfl (Cd.nil0 w)
  · rw [if_neg (fun h => hsp (.inl h)), if_neg (fun h => hsp (.inr h))] at HZ
    have HE := Lib.hid (show parseF k (bl s) sp = (zero, 1) from by rw [parseF, if_pos hsp])
    rw [HE.out]
    clear hK hs hbl hsp HE HW hwe
    go_enter Tryz.func12, Tryz.ntmps12
    go_wp2_with (go_at_call 22; refine (HZ.out _).mono ?_; rintro r w2 ⟨rfl, rfl⟩)
    exact parse_nil w _ 1 _ rfl rfl (Cd.nil0 w)
end Go.Proofs.YtapjgdhdgpakhaaGreatDoor.Hj
namespace Go.Proofs.YtapjgdhdgpakhaaGreatDoor.Hj
open Go.RowKit Ob Hr
set_option linter.unusedVariables false

theorem faces : Faces Kw where
  under := fun w w' h hb => h.under hb
  right := fun o A c P d sp w hK hL hS hcap => pright_any o A c P d sp w hK hL hS.fit hcap
  print := fun o A c P d sp w hK hL hS hcap => pprint_any o A c P d sp w hK hL hS.fit hcap
  parse := fun k s sp w hK hs => pparse_any k s sp w hK hs
  same := fun o p A c P d A' c' P' d' w hK h1 h2 h3 h4 => psame_any w w.heap.size o p A c P d A' c' P' d' h1 h2 (Nat.le_refl _) (by have := h3.ents; omega) (by have := h3.pars; omega)
  tag := fun s w hK hs => ptagName_any s w
  ent := fun s w hK hs => pentName_any s w
end Go.Proofs.YtapjgdhdgpakhaaGreatDoor.Hj
