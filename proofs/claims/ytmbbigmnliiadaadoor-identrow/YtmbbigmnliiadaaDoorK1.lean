/-
  A package-level table of numbers that the row lists: each of its cells holds the number that stands there.
  Layer 10: the program's tables lie in their place (the constants of sha2, the powers of ten that strconv reads), as the row lists them.
  Layer 10: what the program's ident is to answer (Faces); the statements' awake.
  Layer 10: the program's names: words, kinds, numbers of spaces, Make, Bytes, Digits, Zero.
  Layer 10: the library's decimal digits are these.
-/
import Derived.Test.YtmbbigmnliiadaaDoorRows
import Derived.ProofKit
import Derived.LaidMore
import Derived.OpenShut
import Derived.Stop.Joined
import Derived.Test.YtmbbigmnliiadaaDoorQ1
import Derived.Lib.LaidTab
import Derived.Lib.SmallJoins
import Derived.Lib.ItoaNum
import Derived.Test.YtmbbigmnliiadaaDoorI1
import Derived.Test.YtmbbigmnliiadaaDoorIc
import Derived.StillTailTactics
import Derived.Laws.StructEq
import Derived.Laws.ResultCell
import Derived.Defers
import Derived.Recover
import Derived.Laws.Pointers
namespace Go.Proofs.YtmbbigmnliiadaaDoor
open Go.ChangeShapes Go.WideShapes Go.ChangeAt Go.WideMaps Go.WideElems Go.RowKit
set_option linter.unusedVariables false

theorem laid_numbers {P : Program} {W : World} {n : String} {ks : List Int} {k : IntKind} {g : Nat} {ty te : TypeId} {r : List (String × DataW Unit)} {ps : List MemPlace} (hgn : P.globalNamed n = some g) (hty : (P.globals[g]?).map (·.type) = some ty)
    (hu : P.underlying ty = some (.array ks.length te)) (he : P.underlying te = some (.int k)) (hc : P.cellsOf te = 1) (h : DataW.LaidVars P W ((n, .agg (ks.map fun x => .lit (.int k x))) :: r) ps) (i : Nat) (hi : i < ks.length) :
    W.cell? ⟨g, i, none⟩ = some (.int k ks[i]) := by
  obtain ⟨g0, t0, cs, fuel, p, q, hg0, ht0, hv, hd, _, _⟩ := h
  obtain rfl := Option.some.inj (hgn.symm.trans hg0)
  obtain rfl := Option.some.inj (hty.symm.trans ht0)
  obtain ⟨xs, m, rfl, hx, hlen, hn, hel⟩ := DataW.trod_array hu hd
  have h1 := hel i hi
  rw [hc, Nat.mul_one, List.getElem?_eq_getElem (by omega)] at h1
  obtain ⟨v, e1, e2, _⟩ := DataW.trod_int he h1
  have hm : ks.map (fun x => DataW.lit (.int k x)) = xs.map (·.1) := by
    have := congrArg Prod.fst hx
    simpa using this
  have hk : ks[i] = v := by
    have h2 := congrArg (fun l => l[i]?) hm
    simp only [List.getElem?_map, List.getElem?_eq_getElem hi, List.getElem?_eq_getElem (show i < xs.length by omega), Option.map_some, Option.some.injEq] at h2
    rw [e2] at h2
    injection h2 with h2
    injection h2
  have hcell := World.var?_cell hg0 hv i
  rw [hcell, hk]
  have h3 := congrArg (fun l => l[0]?) e1
  simp only [List.getElem?_take, List.getElem?_drop] at h3
  simpa using h3
end Go.Proofs.YtmbbigmnliiadaaDoor
namespace Go.Proofs.YtmbbigmnliiadaaDoor.Hi
open Go.ChangeShapes Go.WideShapes Go.ChangeAt Go.WideMaps Go.WideElems Go.RowKit
set_option linter.unusedVariables false

structure Kt (w : World) : Prop where
  ks : Ho.Ks w
  tab : Lib.TabIs Tryd.prog w "internal/strconv.uint64pow10" .u64 Lib.pow10Tab
theorem Kt.under {w w' : World} (h : Kt w) (hb : Below w.heap.size w w') : Kt w' := ⟨h.ks.under hb, Joins.tab_stays (g := 0) (by kernel_rfl) h.tab hb (Nat.le_refl _)⟩

theorem keys_laid {H : Type} : (Rows.laid_diptych_sha2_constants : DataW H) = .agg ((Hs.S2.keys.map Hs.tn).map fun x => .lit (.int .u32 x)) := by kernel_rfl
theorem pows_laid : (Rows.laid_internal_strconv_uint64pow10 : DataW Unit) = Lib.tabData .u64 Lib.pow10Tab := by kernel_rfl
theorem door_met (os : Os) (args : Array Value) : laidMetH Tryd.prog [("math/bits.deBruijn32tab", Rows.laid_math_bits_deBruijn32tab), ("math/bits.deBruijn64tab", Rows.laid_math_bits_deBruijn64tab), ("internal/strconv.uint64pow10", Rows.laid_internal_strconv_uint64pow10), ("diptych/sha2.constants", Rows.laid_diptych_sha2_constants)] ((World.doorLaid Tryd.prog 400 os).forCall (fun _ _ => 0) ⟨#[], args, []⟩).memory :=
  laidMetH_of_parts3 (fuel := 8) (laidMet_of_run' 8 (by kernel_rfl) (by kernel_rfl)) (by kernel_rfl) (by kernel_rfl)
theorem kt_of_laid {W : World} (h : laidMetH Tryd.prog [("math/bits.deBruijn32tab", Rows.laid_math_bits_deBruijn32tab), ("math/bits.deBruijn64tab", Rows.laid_math_bits_deBruijn64tab), ("internal/strconv.uint64pow10", Rows.laid_internal_strconv_uint64pow10), ("diptych/sha2.constants", Rows.laid_diptych_sha2_constants)] W) : Kt W := by
  rw [MakeChecks.laidMetH_plain _ _ _ (by kernel_rfl)] at h
  obtain ⟨ps, h, _⟩ := h
  obtain ⟨_, _, _, _, _, _, _, _, _, _, h, _⟩ := h
  obtain ⟨_, _, _, _, _, _, _, _, _, _, h, _⟩ := h
  have h3 := h
  obtain ⟨_, _, _, _, _, _, _, _, _, _, h4, _⟩ := h
  constructor
  · rw [keys_laid] at h4
    intro i hi
    have hc := laid_numbers (P := Tryd.prog) (ks := Hs.S2.keys.map Hs.tn) (g := 1) (ty := 119) (te := 68) (by kernel_rfl) (by kernel_rfl) Tryd.underlying119 Tryd.underlying68 (by kernel_rfl) h4 i (by simpa [Hs.S2.keys] using hi)
    rw [hc]
    have h2 : i < Hs.S2.keys.length := by simpa [Hs.S2.keys] using hi
    simp [List.getD, List.getElem?_eq_getElem h2]
  · rw [pows_laid] at h3
    obtain ⟨g', t', cs, fuel, p, q, hg', ht', hvar, hd, _, _⟩ := h3
    have hg : Tryd.prog.globalNamed "internal/strconv.uint64pow10" = some 0 := by kernel_rfl
    have hty : (Tryd.prog.globals[0]?).map (·.type) = some 115 := by kernel_rfl
    obtain rfl := Option.some.inj (hg.symm.trans hg')
    obtain rfl := Option.some.inj (hty.symm.trans ht')
    unfold Lib.TabIs
    rw [hvar, ← Lib.cells_of_tab (n := 20) Tryd.underlying115 Tryd.underlying90 (by kernel_rfl) (by kernel_rfl) hd]
end Go.Proofs.YtmbbigmnliiadaaDoor.Hi
namespace Go.Proofs.YtmbbigmnliiadaaDoor.Hi
open Go.RowKit Hg Hs Hd
set_option linter.unusedVariables false

def nm (x : ByteArray) : Value := .agg #[.string x]
/-- the program's ident, function by function -/
structure Faces : Prop where
  word : ∀ (k : Int) (w : World), Calls Tryd.prog 14 #[.int .i64 k] w fun e w' => e = .returned (.string (Idf.word k)) ∧ Below w.heap.size w w'
  kind : ∀ (s : ByteArray) (w : World), s.size ≤ 100000 → Calls Tryd.prog 19 #[.string s] w fun e w' => e = .returned (.int .i64 (Idf.kindF s)) ∧ Below w.heap.size w w'
  row : ∀ (k : Int) (c : ByteArray) (w : World), Kt w → c.size ≤ 99999 → Calls Tryd.prog 13 #[.int .i64 k, .string c] w fun e w' => e = .returned (.string (Idf.row k c)) ∧ Below w.heap.size w w'
  idn : ∀ (sp k : Int) (c : ByteArray) (w : World), Kt w → c.size ≤ 1000 → Calls Tryd.prog 12 #[.int .i64 sp, .int .i64 k, .string c] w fun e w' => e = .returned (.tuple #[.string (Idf.idF sp k c).1, .int .i64 (Idf.idF sp k c).2]) ∧ Below w.heap.size w w'
  idw : ∀ (k : Int) (c : ByteArray) (w : World), Kt w → c.size ≤ 90000 → Calls Tryd.prog 12 #[.int .i64 2, .int .i64 k, .string c] w fun e w' => e = .returned (.tuple #[.string (Idf.idF 2 k c).1, .int .i64 (Idf.idF 2 k c).2]) ∧ Below w.heap.size w w'
  ofW : ∀ (k : Int) (c : ByteArray) (w : World), Kt w → c.size ≤ 1000 → Calls Tryd.prog 16 #[.int .i64 k, .string c] w fun e w' => e = .returned (.tuple #[.agg #[.string (Idf.idF 2 k c).1], .int .i64 (Idf.idF 2 k c).2]) ∧ Below w.heap.size w w'
  ofN : ∀ (k : Int) (c : ByteArray) (w : World), Kt w → c.size ≤ 1000 → Calls Tryd.prog 15 #[.int .i64 k, .string c] w fun e w' => e = .returned (.tuple #[.agg #[.string (Idf.idF 1 k c).1], .int .i64 (Idf.idF 1 k c).2]) ∧ Below w.heap.size w w'
  makeW : ∀ (b : ByteArray) (w : World), b.size ≤ 100000 → Calls Tryd.prog 7 #[.string b] w fun e w' => e = .returned (if b.size = 32 then .tuple #[.agg #[.string b], .int .i64 0] else .tuple #[.agg #[.string ⟨#[]⟩], .int .i64 3]) ∧ Below w.heap.size w w'
  makeN : ∀ (b : ByteArray) (w : World), b.size ≤ 100000 → Calls Tryd.prog 8 #[.string b] w fun e w' => e = .returned (if b.size = 20 then .tuple #[.agg #[.string b], .int .i64 0] else .tuple #[.agg #[.string ⟨#[]⟩], .int .i64 3]) ∧ Below w.heap.size w w'
  bytesW : ∀ (x : ByteArray) (w : World), Calls Tryd.prog 9 #[.agg #[.string x]] w fun e w' => e = .returned (.string x) ∧ Below w.heap.size w w'
  bytesN : ∀ (x : ByteArray) (w : World), Calls Tryd.prog 11 #[.agg #[.string x]] w fun e w' => e = .returned (.string x) ∧ Below w.heap.size w w'
  digitsW : ∀ (x : ByteArray) (w : World), x.size ≤ 100000 → Calls Tryd.prog 18 #[.agg #[.string x]] w fun e w' => e = .returned (.string (str (M.digs (bl x)))) ∧ Below w.heap.size w w'
  digitsN : ∀ (x : ByteArray) (w : World), x.size ≤ 100000 → Calls Tryd.prog 17 #[.agg #[.string x]] w fun e w' => e = .returned (.string (str (M.digs (bl x)))) ∧ Below w.heap.size w w'
  zeroW : ∀ (x : ByteArray) (w : World), Calls Tryd.prog 10 #[.agg #[.string x]] w fun e w' => e = .returned (.bool (x.size == 0)) ∧ Below w.heap.size w w'
  numW : ∀ w : World, Calls Tryd.prog 112 #[.agg #[]] w fun e w' => e = .returned (.int .i64 2) ∧ Below w.heap.size w w'
  numN : ∀ w : World, Calls Tryd.prog 113 #[.agg #[]] w fun e w' => e = .returned (.int .i64 1) ∧ Below w.heap.size w w'

/-- a name in a block of its own -/
def NmAt (W : World) (g t : Nat) (x : ByteArray) : Prop := W.heap[g]? = some (.cells #[.string x] t (0, 0))
section
variable {W W' : World} {g t : Nat} {x : ByteArray}
theorem NmAt.cell (h : NmAt W g t x) : W.cell? ⟨g, 0, none⟩ = some (.string x) := cell_of_cells h 0
theorem NmAt.lt (h : NmAt W g t x) : g < W.heap.size := (Array.getElem?_eq_some_iff.1 h).1
theorem NmAt.step (h : NmAt W g t x) (hb : Below W.heap.size W W') : NmAt W' g t x := (hb.block g h.lt).trans h
theorem NmAt.alloc (h : NmAt W g t x) (o : Obj) : NmAt (W.alloc o) g t x := h.step ((Below.refl _ W).alloc (Nat.le_refl _) o)
theorem nm_new (W : World) (t : Nat) (x : ByteArray) : NmAt (W.alloc (.cells #[.string x] t (0, 0))) W.heap.size t x := heap_alloc_new W _
end
/-- the law's names, in blocks of their own -/
structure Keep (w W : World) (g1 g2 g3 t1 t2 : Nat) (a b : ByteArray) : Prop where
  a : NmAt W g1 t1 a
  b : NmAt W g2 t2 b
  z : NmAt W g3 t2 ⟨#[]⟩
  below : Below w.heap.size w W
theorem Keep.step {w W W' : World} {g1 g2 g3 t1 t2 : Nat} {a b : ByteArray} (h : Keep w W g1 g2 g3 t1 t2 a b) (hb : Below W.heap.size W W') : Keep w W' g1 g2 g3 t1 t2 a b :=
  ⟨h.a.step hb, h.b.step hb, h.z.step hb, h.below.trans (hb.mono h.below.size)⟩
theorem row_blob : Idf.row 1 ⟨#[]⟩ = ⟨#[98, 108, 111, 98, 32, 48, 0]⟩ := by kernel_rfl
theorem id_n : Idf.idF 1 1 ⟨#[]⟩ = (⟨#[230, 157, 226, 155, 178, 209, 214, 67, 75, 139, 41, 174, 119, 90, 216, 194, 228, 140, 83, 145]⟩, 0) := by
  rw [Idf.id_narrow (by decide) (by decide) (by rw [row_blob]; exact scan_none), row_blob]
  unfold Idf.narrow
  exact congrArg (fun l : List UInt8 => ((⟨l.toArray⟩ : ByteArray), (0 : Int))) narrow_none
theorem id_w : Idf.idF 2 1 ⟨#[]⟩ = (⟨#[71, 58, 15, 76, 59, 232, 169, 54, 129, 162, 103, 227, 177, 233, 167, 220, 218, 17, 133, 67, 111, 225, 65, 247, 116, 145, 32, 163, 3, 114, 24, 19]⟩, 0) := by
  rw [Idf.id_wide (by decide) (by decide), row_blob]
  unfold Idf.wide
  exact congrArg (fun l : List UInt8 => ((⟨l.toArray⟩ : ByteArray), (0 : Int))) wide_none
theorem digs_n : str (M.digs (bl ⟨#[230, 157, 226, 155, 178, 209, 214, 67, 75, 139, 41, 174, 119, 90, 216, 194, 228, 140, 83, 145]⟩)) = ⟨#[101, 54, 57, 100, 101, 50, 57, 98, 98, 50, 100, 49, 100, 54, 52, 51, 52, 98, 56, 98, 50, 57, 97, 101, 55, 55, 53, 97, 100, 56, 99, 50, 101, 52, 56, 99, 53, 51, 57, 49]⟩ := by kernel_rfl
theorem digs_w : (str (M.digs (bl ⟨#[71, 58, 15, 76, 59, 232, 169, 54, 129, 162, 103, 227, 177, 233, 167, 220, 218, 17, 133, 67, 111, 225, 65, 247, 116, 145, 32, 163, 3, 114, 24, 19]⟩))).extract 0 8 = ⟨#[52, 55, 51, 97, 48, 102, 52, 99]⟩ := by kernel_rfl

set_option maxHeartbeats 4000000 in
set_option maxRecDepth 100000 in
theorem awake10_any (F : Faces) (w : World) (hK : Kt w) : Calls Tryd.prog 6 #[] w fun e w' => e = .returned (.bool true) ∧ Below w.heap.size w w' := by
  have HK := Lib.hid hK
  have HF := Lib.hid F
  have O1 := Lib.hid (F.ofN 1 ⟨#[]⟩ w hK (by decide))
  have O2 := Lib.hid (fun W h => F.ofW 1 ⟨#[]⟩ W h (by decide))
  have O3 := Lib.hid (fun W => show Calls Tryd.prog 7 #[.string ⟨#[120]⟩] W fun e w' => e = .returned (.tuple #[.agg #[.string ⟨#[]⟩], .int .i64 3]) ∧ Below W.heap.size W w' from by have h := F.makeW ⟨#[120]⟩ W (by decide); rwa [if_neg (by decide)] at h)
  rw [id_n] at O1
  rw [id_w] at O2
  have D1 := Lib.hid (fun W => F.digitsN ⟨#[230, 157, 226, 155, 178, 209, 214, 67, 75, 139, 41, 174, 119, 90, 216, 194, 228, 140, 83, 145]⟩ W (by decide))
  have D2 := Lib.hid (fun W => F.digitsW ⟨#[71, 58, 15, 76, 59, 232, 169, 54, 129, 162, 103, 227, 177, 233, 167, 220, 218, 17, 133, 67, 111, 225, 65, 247, 116, 145, 32, 163, 3, 114, 24, 19]⟩ W (by decide))
  rw [digs_n] at D1
  have hsl := slice_to (str (M.digs (bl ⟨#[71, 58, 15, 76, 59, 232, 169, 54, 129, 162, 103, 227, 177, 233, 167, 220, 218, 17, 133, 67, 111, 225, 65, 247, 116, 145, 32, 163, 3, 114, 24, 19]⟩))) 8 8 rfl (by decide)
  rw [digs_w] at hsl
  generalize str (M.digs (bl ⟨#[71, 58, 15, 76, 59, 232, 169, 54, 129, 162, 103, 227, 177, 233, 167, 220, 218, 17, 133, 67, 111, 225, 65, 247, 116, 145, 32, 163, 3, 114, 24, 19]⟩)) = DW at *
  have hb1 : (⟨#[71, 58, 15, 76, 59, 232, 169, 54, 129, 162, 103, 227, 177, 233, 167, 220, 218, 17, 133, 67, 111, 225, 65, 247, 116, 145, 32, 163, 3, 114, 24, 19]⟩ : ByteArray).size = 32 := rfl
  have Z1 := Lib.hid (fun W => F.zeroW ⟨#[]⟩ W)
  rw [show ((⟨#[]⟩ : ByteArray).size == 0) = true from rfl] at Z1
  have Z2 := Lib.hid (fun W => F.zeroW ⟨#[71, 58, 15, 76, 59, 232, 169, 54, 129, 162, 103, 227, 177, 233, 167, 220, 218, 17, 133, 67, 111, 225, 65, 247, 116, 145, 32, 163, 3, 114, 24, 19]⟩ W)
  rw [show ((⟨#[71, 58, 15, 76, 59, 232, 169, 54, 129, 162, 103, 227, 177, 233, 167, 220, 218, 17, 133, 67, 111, 225, 65, 247, 116, 145, 32, 163, 3, 114, 24, 19]⟩ : ByteArray).size == 0) = false from rfl] at Z2
  have K4 := Lib.hid (fun W => F.word 4 W)
  have K5 := Lib.hid (fun W => F.kind ⟨#[116, 114, 101, 101]⟩ W (by decide))
  rw [Idf.word4] at K4
  rw [show Idf.kindF ⟨#[116, 114, 101, 101]⟩ = 2 from by decide] at K5
  have B1 := Lib.hid (fun W => F.bytesW ⟨#[71, 58, 15, 76, 59, 232, 169, 54, 129, 162, 103, 227, 177, 233, 167, 220, 218, 17, 133, 67, 111, 225, 65, 247, 116, 145, 32, 163, 3, 114, 24, 19]⟩ W)
  generalize hNA : (⟨#[230, 157, 226, 155, 178, 209, 214, 67, 75, 139, 41, 174, 119, 90, 216, 194, 228, 140, 83, 145]⟩ : ByteArray) = NA at *
  generalize hWA : (⟨#[71, 58, 15, 76, 59, 232, 169, 54, 129, 162, 103, 227, 177, 233, 167, 220, 218, 17, 133, 67, 111, 225, 65, 247, 116, 145, 32, 163, 3, 114, 24, 19]⟩ : ByteArray) = WA at *
  clear hK F hNA hWA
  go_enter Tryd.func6, Tryd.ntmps6
  go_upto_region 2 with (go_at_call 15; refine O1.out.mono ?_; rintro r w1 ⟨rfl, hb1⟩)
  have HS1 := Lib.hid (And.intro (nm_new w1 35 NA) (hb1.alloc hb1.size (.cells #[.string NA] 35)))
  generalize w1.alloc (.cells #[.string NA] 35) = W1 at *
  generalize w1.heap.size = g1 at *
  clear hb1
  go_upto_region 3 with (go_at_call 16; refine (O2.out _ (HK.out.under HS1.out.2)).mono ?_; rintro r w2 ⟨rfl, hb2⟩)
  have HS2 := Lib.hid (And.intro ((HS1.out.1.step hb2).alloc (.cells #[.string WA] 26)) (And.intro (nm_new w2 26 WA) ((HS1.out.2.trans (hb2.mono HS1.out.2.size)).alloc (Nat.le_trans HS1.out.2.size hb2.size) (.cells #[.string WA] 26))))
  generalize w2.alloc (.cells #[.string WA] 26) = W2 at *
  generalize w2.heap.size = g2 at *
  clear hb2
  go_upto_region 5 with (go_at_call 7; refine (O3.out _).mono ?_; rintro r w3 ⟨rfl, hb3⟩)
  have HP := Lib.hid (show Keep w ((w3.alloc (.cells #[.string ⟨#[]⟩] 26)).alloc (.cells #[.string ⟨#[]⟩] 26)) g1 g2 (w3.heap.size + 1) 35 26 NA WA from
    ⟨((HS2.out.1.step hb3).alloc _).alloc _, ((HS2.out.2.1.step hb3).alloc _).alloc _, by have h := nm_new (w3.alloc (.cells #[.string ⟨#[]⟩] 26)) 26 ⟨#[]⟩; rwa [World.size_alloc] at h,
      ((HS2.out.2.2.trans (hb3.mono HS2.out.2.2.size)).alloc (Nat.le_trans HS2.out.2.2.size hb3.size) _).alloc (Nat.le_trans (Nat.le_trans HS2.out.2.2.size hb3.size) (by simp)) _⟩)
  generalize (w3.alloc (.cells #[.string ⟨#[]⟩] 26)).alloc (.cells #[.string ⟨#[]⟩] 26) = W3 at *
  generalize w3.heap.size = g3 at *
  clear hb3 HS2 HS1
  have c1 := HP.out.a.cell
  have c2 := HP.out.b.cell
  have c3 := HP.out.z.cell
  go_wp2_with (first
    | (go_at_call 17; refine (D1.out _).mono ?_; rintro r w5 ⟨rfl, hb5⟩; have HP := Lib.hid (HP.out.step hb5); have c1 := HP.out.a.cell; have c2 := HP.out.b.cell; have c3 := HP.out.z.cell; clear hb5)
    | (go_at_call 9; refine (B1.out _).mono ?_; rintro r w5 ⟨rfl, hb5⟩; have HP := Lib.hid (HP.out.step hb5); have c1 := HP.out.a.cell; have c2 := HP.out.b.cell; have c3 := HP.out.z.cell; clear hb5)
    | (go_at_call 18; refine (D2.out _).mono ?_; rintro r w5 ⟨rfl, hb5⟩; have HP := Lib.hid (HP.out.step hb5); have c1 := HP.out.a.cell; have c2 := HP.out.b.cell; have c3 := HP.out.z.cell; clear hb5)
    | (go_at_call 14; refine (K4.out _).mono ?_; rintro r w5 ⟨rfl, hb5⟩; have HP := Lib.hid (HP.out.step hb5); have c1 := HP.out.a.cell; have c2 := HP.out.b.cell; have c3 := HP.out.z.cell; clear hb5)
    | (go_at_call 19; refine (K5.out _).mono ?_; rintro r w5 ⟨rfl, hb5⟩; have HP := Lib.hid (HP.out.step hb5); have c1 := HP.out.a.cell; have c2 := HP.out.b.cell; have c3 := HP.out.z.cell; clear hb5)
    | (go_at_call 10; with_reducible refine (Z1.out _).mono ?_; rintro r w5 ⟨rfl, hb5⟩; have HP := Lib.hid (HP.out.step hb5); have c1 := HP.out.a.cell; have c2 := HP.out.b.cell; have c3 := HP.out.z.cell; clear hb5)
    | (go_at_call 10; with_reducible refine (Z2.out _).mono ?_; rintro r w5 ⟨rfl, hb5⟩; have HP := Lib.hid (HP.out.step hb5); have c1 := HP.out.a.cell; have c2 := HP.out.b.cell; have c3 := HP.out.z.cell; clear hb5))
  go_ret
  exact ⟨rfl, HP.out.below⟩
end Go.Proofs.YtmbbigmnliiadaaDoor.Hi
namespace Go.Proofs.YtmbbigmnliiadaaDoor.Hi
open Go.RowKit Hg Hs Hd
set_option linter.unusedVariables false

theorem run_two (x y : ByteArray) (w : World) (t : TypeId) (fs : List Field) (hl : fs.length = 2)
    (hf : ((fs[0]?).map fun f => f.type == t && f.offset == 0 && f.name != "_") = some true) (hg : ((fs[1]?).map fun f => f.type == 9 && f.offset == 0 && f.name != "_") = some true)
    (ht : ∀ W z, (part t #[.string z] 0).run Tryd.prog W = .ok (.agg #[]) W) (he : ∀ W, (Op.equalIn 9999 t (.agg #[]) (.agg #[])).run Tryd.prog W = .ok true W) :
    (Op.eqFields 9999 #[.string x] #[.string y] fs).run Tryd.prog w = .ok (x.toList == y.toList) w := by
  obtain ⟨f, g, rfl⟩ := (by match fs, hl with | [f, g], _ => exact ⟨f, g, rfl⟩ : ∃ f g, fs = [f, g])
  simp only [List.getElem?_cons_zero, List.getElem?_cons_succ, Option.map_some, Option.some.injEq, Bool.and_eq_true, beq_iff_eq, bne_iff_ne] at hf hg
  obtain ⟨⟨f1, f2⟩, f3⟩ := hf
  obtain ⟨⟨g1, g2⟩, g3⟩ := hg
  have hp : ∀ z : ByteArray, (part g.type #[.string z] g.offset).run Tryd.prog w = .ok (.string z) w := fun z => by rw [g1, g2]; simp [part, Tryd.isAgg9]
  have hq : (Op.equalIn 9999 g.type (.string x) (.string y)).run Tryd.prog w = .ok (x.toList == y.toList) w := by rw [g1, run_equalIn_string w 9998 9 x y Tryd.underlying9]
  have hr : ∀ z : ByteArray, (part f.type #[.string z] f.offset).run Tryd.prog w = .ok (.agg #[]) w := fun z => by rw [f1, f2]; exact ht w z
  have hs : (Op.equalIn 9999 f.type (.agg #[]) (.agg #[])).run Tryd.prog w = .ok true w := by rw [f1]; exact he w
  cases hx : x.toList == y.toList with
  | true => rw [hx] at hq; simp [Op.eqFields, f3, g3, Sem.run_bind, hp, hq, hr, hs]
  | false => rw [hx] at hq; simp [Op.eqFields, f3, g3, Sem.run_bind, hp, hq, hr, hs]
theorem eql_nm (x y : ByteArray) (w : World) : (binOp .eql 26 (.agg #[.string x]) (.agg #[.string y])).run Tryd.prog w = .ok (.bool (x.toList == y.toList)) w := by
  have h : (Op.equalIn 10000 26 (.agg #[.string x]) (.agg #[.string y])).run Tryd.prog w = .ok (x.toList == y.toList) w := by
    rw [run_equalIn_agg w 9999 26 _ _ (by kernel_rfl) (by kernel_rfl)]
    exact run_two x y w 24 _ (by kernel_rfl) (by kernel_rfl) (by kernel_rfl) (fun W z => by kernel_rfl) (fun W => by kernel_rfl)
  rw [run_eql_struct, h]; rfl

set_option maxHeartbeats 2000000 in
set_option maxRecDepth 100000 in
theorem numW_any (w : World) : Calls Tryd.prog 112 #[.agg #[]] w fun e w' => e = .returned (.int .i64 2) ∧ Below w.heap.size w w' := by
  go_enter Tryd.func112, Tryd.ntmps112
  go_wp2
  go_ret
  exact ⟨rfl, (Below.refl _ w).alloc (Nat.le_refl _) _⟩

set_option maxHeartbeats 2000000 in
set_option maxRecDepth 100000 in
theorem idleW_any (p : Addr) (w : World) :
    CallsD Tryd.prog 27 #[.pointer (some p)] .returning w fun e u' w' => e = .returned (.tuple #[]) ∧ u' = .returning ∧ w' = w := by
  refine callsD_of_wpS Tryd.func27 rfl fun c₀ cs hu => ?_
  apply wpS_seq
  apply wpS_region
  simp [wpOpsS, go_sem, recoverD, hu, Tryd.ntmps27, Exit.thenS]
  refine wpS_cond (t := false) (by simp [Act.eval, Array.replicate]) ?_
  simp only [Bool.false_eq_true, if_false]
  refine wpS_of_wp (wp_skip ?_)
  cases c₀
  simp_all [bodyPostS, results, Tryd.results27]

set_option maxHeartbeats 2000000 in
set_option maxRecDepth 100000 in
theorem numberW_any (w : World) : Calls Tryd.prog 21 #[] w fun e w' => e = .returned (.int .i64 2) ∧ Below w.heap.size w w' := by
  have HN := Lib.hid (fun W => numW_any W)
  have hmf : ∀ (fn : Fn) (first cap : Array Value) (w : World), (Instr.makeFunc fn first cap).run Tryd.prog w = .ok (.func fn first cap) w := fun _ _ _ _ => rfl
  have hm : ∀ W, (method 253 31 (.agg #[]) "Number").run Tryd.prog W = .ok (112, .agg #[]) W := fun W => by kernel_rfl
  have HB := Lib.hid (((Below.refl _ w).alloc (Nat.le_refl _) (.cells #[.int .i64 0] 3)).alloc (by simp) (.cells #[] 31))
  have HC := Lib.hid (show ((w.alloc (.cells #[.int .i64 0] 3)).alloc (.cells #[] 31)).heap[w.heap.size]? = some (.cells #[.int .i64 0] 3 (0, 0)) from by rw [Below.heap_alloc _ _ _ (by simp)]; exact heap_alloc_new w _)
  go_enter_defers Tryd.func21, Tryd.ntmps21
  go_wp2_with (go_at_call 112; refine (HN.out _).mono ?_; rintro r w5 ⟨rfl, hb5⟩; have hh := (hb5.block w.heap.size (by simp; omega)).trans HC.out; have c1 := cell_of_cells hh 0; have f1 := unfrozen_of_cells hh 0; have HP := Lib.hid (And.intro hh (HB.out.trans (hb5.mono HB.out.size))); clear hh hb5)
  refine leaves_cons (f := 27) (args := #[.pointer (some ⟨w.heap.size, 0, none⟩)]) (by simp) (by simp [go_sem]) ?_
  refine (idleW_any ⟨w.heap.size, 0, none⟩ _).mono ?_
  rintro e u' w'' ⟨rfl, rfl, rfl⟩
  have h2 : (w5.setCell ⟨w.heap.size, 0, none⟩ (.int .i64 2)).cell? ⟨w.heap.size, 0, none⟩ = some (.int .i64 2) := cell_of_cells (heap_setCell_cells HP.out.1 0 (.int .i64 2)) 0
  have h3 := HP.out.2.setCell (p := ⟨w.heap.size, 0, none⟩) (Nat.le_refl _) (.int .i64 2)
  generalize w5.setCell ⟨w.heap.size, 0, none⟩ (.int .i64 2) = w6 at *
  simp [Leaves, settle, results, Tryd.results21, go_sem, h2, h3]

set_option maxHeartbeats 2000000 in
set_option maxRecDepth 100000 in
theorem numN_any (w : World) : Calls Tryd.prog 113 #[.agg #[]] w fun e w' => e = .returned (.int .i64 1) ∧ Below w.heap.size w w' := by
  go_enter Tryd.func113, Tryd.ntmps113
  go_wp2
  go_ret
  exact ⟨rfl, (Below.refl _ w).alloc (Nat.le_refl _) _⟩

set_option maxHeartbeats 2000000 in
set_option maxRecDepth 100000 in
theorem idleN_any (p : Addr) (w : World) :
    CallsD Tryd.prog 28 #[.pointer (some p)] .returning w fun e u' w' => e = .returned (.tuple #[]) ∧ u' = .returning ∧ w' = w := by
  refine callsD_of_wpS Tryd.func28 rfl fun c₀ cs hu => ?_
  apply wpS_seq
  apply wpS_region
  simp [wpOpsS, go_sem, recoverD, hu, Tryd.ntmps28, Exit.thenS]
  refine wpS_cond (t := false) (by simp [Act.eval, Array.replicate]) ?_
  simp only [Bool.false_eq_true, if_false]
  refine wpS_of_wp (wp_skip ?_)
  cases c₀
  simp_all [bodyPostS, results, Tryd.results28]

set_option maxHeartbeats 2000000 in
set_option maxRecDepth 100000 in
theorem numberN_any (w : World) : Calls Tryd.prog 22 #[] w fun e w' => e = .returned (.int .i64 1) ∧ Below w.heap.size w w' := by
  have HN := Lib.hid (fun W => numN_any W)
  have hmf : ∀ (fn : Fn) (first cap : Array Value) (w : World), (Instr.makeFunc fn first cap).run Tryd.prog w = .ok (.func fn first cap) w := fun _ _ _ _ => rfl
  have hm : ∀ W, (method 253 38 (.agg #[]) "Number").run Tryd.prog W = .ok (113, .agg #[]) W := fun W => by kernel_rfl
  have HB := Lib.hid (((Below.refl _ w).alloc (Nat.le_refl _) (.cells #[.int .i64 0] 3)).alloc (by simp) (.cells #[] 38))
  have HC := Lib.hid (show ((w.alloc (.cells #[.int .i64 0] 3)).alloc (.cells #[] 38)).heap[w.heap.size]? = some (.cells #[.int .i64 0] 3 (0, 0)) from by rw [Below.heap_alloc _ _ _ (by simp)]; exact heap_alloc_new w _)
  go_enter_defers Tryd.func22, Tryd.ntmps22
  go_wp2_with (go_at_call 113; refine (HN.out _).mono ?_; rintro r w5 ⟨rfl, hb5⟩; have hh := (hb5.block w.heap.size (by simp; omega)).trans HC.out; have c1 := cell_of_cells hh 0; have f1 := unfrozen_of_cells hh 0; have HP := Lib.hid (And.intro hh (HB.out.trans (hb5.mono HB.out.size))); clear hh hb5)
  refine leaves_cons (f := 28) (args := #[.pointer (some ⟨w.heap.size, 0, none⟩)]) (by simp) (by simp [go_sem]) ?_
  refine (idleN_any ⟨w.heap.size, 0, none⟩ _).mono ?_
  rintro e u' w'' ⟨rfl, rfl, rfl⟩
  have h2 : (w5.setCell ⟨w.heap.size, 0, none⟩ (.int .i64 1)).cell? ⟨w.heap.size, 0, none⟩ = some (.int .i64 1) := cell_of_cells (heap_setCell_cells HP.out.1 0 (.int .i64 1)) 0
  have h3 := HP.out.2.setCell (p := ⟨w.heap.size, 0, none⟩) (Nat.le_refl _) (.int .i64 1)
  generalize w5.setCell ⟨w.heap.size, 0, none⟩ (.int .i64 1) = w6 at *
  simp [Leaves, settle, results, Tryd.results22, go_sem, h2, h3]

set_option maxHeartbeats 2000000 in
set_option maxRecDepth 100000 in
theorem bytesW_any (x : ByteArray) (w : World) : Calls Tryd.prog 9 #[.agg #[.string x]] w fun e w' => e = .returned (.string x) ∧ Below w.heap.size w w' := by
  go_enter Tryd.func9, Tryd.ntmps9
  go_wp2
  go_ret
  exact ⟨rfl, (Below.refl _ w).alloc (Nat.le_refl _) _⟩

set_option maxHeartbeats 2000000 in
set_option maxRecDepth 100000 in
theorem digitsW_any (x : ByteArray) (w : World) (hx : x.size ≤ 100000) : Calls Tryd.prog 18 #[.agg #[.string x]] w fun e w' => e = .returned (.string (str (M.digs (bl x)))) ∧ Below w.heap.size w w' := by
  have HD := Lib.hid (fun W => Digits_any x W hx)
  have HB := Lib.hid ((Below.refl _ w).alloc (Nat.le_refl _) (.cells #[.string x] 26))
  go_enter Tryd.func18, Tryd.ntmps18
  go_wp2_with (go_at_call 26; refine (HD.out _).mono ?_; rintro r w2 ⟨rfl, hb2⟩)
  go_ret
  exact ⟨rfl, HB.out.trans (hb2.mono HB.out.size)⟩

set_option maxHeartbeats 2000000 in
set_option maxRecDepth 100000 in
theorem bytesN_any (x : ByteArray) (w : World) : Calls Tryd.prog 11 #[.agg #[.string x]] w fun e w' => e = .returned (.string x) ∧ Below w.heap.size w w' := by
  go_enter Tryd.func11, Tryd.ntmps11
  go_wp2
  go_ret
  exact ⟨rfl, (Below.refl _ w).alloc (Nat.le_refl _) _⟩

set_option maxHeartbeats 2000000 in
set_option maxRecDepth 100000 in
theorem digitsN_any (x : ByteArray) (w : World) (hx : x.size ≤ 100000) : Calls Tryd.prog 17 #[.agg #[.string x]] w fun e w' => e = .returned (.string (str (M.digs (bl x)))) ∧ Below w.heap.size w w' := by
  have HD := Lib.hid (fun W => Digits_any x W hx)
  have HB := Lib.hid ((Below.refl _ w).alloc (Nat.le_refl _) (.cells #[.string x] 35))
  go_enter Tryd.func17, Tryd.ntmps17
  go_wp2_with (go_at_call 26; refine (HD.out _).mono ?_; rintro r w2 ⟨rfl, hb2⟩)
  go_ret
  exact ⟨rfl, HB.out.trans (hb2.mono HB.out.size)⟩

set_option maxHeartbeats 2000000 in
set_option maxRecDepth 100000 in
theorem zeroW_any (x : ByteArray) (w : World) : Calls Tryd.prog 10 #[.agg #[.string x]] w fun e w' => e = .returned (.bool (x.size == 0)) ∧ Below w.heap.size w w' := by
  have he : (x.toList == (⟨#[]⟩ : ByteArray).toList) = (x.size == 0) := by
    rw [toList_bl, toList_bl, ← bl_length x, show bl ⟨#[]⟩ = [] from rfl]
    cases bl x <;> rfl
  have hq : ∀ W, (binOp .eql 26 (.agg #[.string x]) (.agg #[.string ⟨#[]⟩])).run Tryd.prog W = .ok (.bool (x.size == 0)) W := fun W => by rw [eql_nm, he]
  obtain ⟨b, hb⟩ : ∃ b, (x.size == 0) = b := ⟨_, rfl⟩
  rw [hb] at hq ⊢
  clear hb he
  go_enter Tryd.func10, Tryd.ntmps10
  go_wp2
  go_ret
  exact ⟨rfl, (Below.refl _ w).alloc (Nat.le_refl _) _⟩

set_option maxHeartbeats 2000000 in
set_option maxRecDepth 100000 in
theorem word_any (k : Int) (w : World) : Calls Tryd.prog 14 #[.int .i64 k] w fun e w' => e = .returned (.string (Idf.word k)) ∧ Below w.heap.size w w' := by
  by_cases h : 1 ≤ k ∧ k ≤ 4
  · rcases Idf.kind_cases h with rfl | rfl | rfl | rfl
    all_goals
      go_enter Tryd.func14, Tryd.ntmps14
      go_wp2
      go_ret
      exact ⟨rfl, Below.refl _ _⟩
  · have HN := Lib.hid (Idf.word_no h)
    have h1 : (k == 1) = false := beq_eq_false_iff_ne.2 (by omega)
    have h2 : (k == 2) = false := beq_eq_false_iff_ne.2 (by omega)
    have h3 : (k == 3) = false := beq_eq_false_iff_ne.2 (by omega)
    have h4 : (k == 4) = false := beq_eq_false_iff_ne.2 (by omega)
    clear h
    go_enter Tryd.func14, Tryd.ntmps14
    go_wp2
    go_ret
    exact ⟨by rw [HN.out]; rfl, Below.refl _ _⟩

set_option maxHeartbeats 2000000 in
set_option maxRecDepth 100000 in
theorem kind_any (s : ByteArray) (w : World) : Calls Tryd.prog 19 #[.string s] w fun e w' => e = .returned (.int .i64 (Idf.kindF s)) ∧ Below w.heap.size w w' := by
  have HW := Lib.hid (fun k w' => word_any k w')
  go_enter Tryd.func19, Tryd.ntmps19
  go_wp2_with fail
  go_loopg [3] 4 (fun gk v wr => ∃ k : Nat, 1 ≤ k ∧ k ≤ 5 ∧ gk = 5 - k ∧ v = .int .i64 k ∧ (∀ j : Nat, 1 ≤ j → j < k → Idf.word j ≠ s) ∧ Below w.heap.size w wr)
  case atStart => exact ⟨1, by omega, by omega, rfl, rfl, fun j h1 h2 => by omega, Below.refl _ _⟩
  case round =>
    obtain ⟨k, hk1, hk5, rfl, rfl, hj, hb⟩ := hrel
    have HJ := Lib.hid hj
    have HB := Lib.hid hb
    clear hj hb
    by_cases h5 : k < 5
    · have h5i : (k : Int) < 5 := by omega
      have hk4 : (k : Int) ≤ 4 := by omega
      by_cases he : Idf.word k = s
      · have hq := str_beq he
        have HE := Lib.hid (Idf.kind_at k hk1 h5 HJ.out he)
        have HWk := Lib.hid (HW.out (k : Int))
        clear he HW
        generalize Idf.word k = x at *
        go_wp2_with (go_at_call 14; refine (HWk.out _).mono ?_; rintro r w2 ⟨rfl, hb2⟩)
        go_ret
        exact ⟨by rw [HE.out]; rfl, HB.out.trans (hb2.mono HB.out.size)⟩
      · have hq := str_bne he
        have HE := Lib.hid (show ∀ j : Nat, 1 ≤ j → j < k + 1 → Idf.word j ≠ s from fun j h1 h2 => by
          by_cases h : j = k
          · subst h; exact he
          · exact HJ.out j h1 (by omega))
        have HWk := Lib.hid (HW.out (k : Int))
        clear he HW
        generalize Idf.word k = x at *
        go_wp2_with (go_at_call 14; refine (HWk.out _).mono ?_; rintro r w2 ⟨rfl, hb2⟩)
        go_roundg (5 - (k + 1))
        case rel => exact ⟨k + 1, by omega, by omega, rfl, by go_num, HE.out, HB.out.trans (hb2.mono HB.out.size)⟩
        case measure => omega
    · have h5i : ¬ (k : Int) ≤ 4 := by omega
      have HE := Lib.hid (Idf.kind_none (s := s) (fun j h1 h2 => HJ.out j h1 (by omega)))
      go_wp2
      go_ret
      exact ⟨by rw [HE.out]; rfl, HB.out⟩

theorem nm_cells {P : Program} {fn : Func} {p u : Tmp} {ty : TypeId} (h : fn.results = #[.cell p ty, .tmp u]) (tmps : Array Value) (w : World) (g : Nat) (x : ByteArray) (d : TypeDesc)
    (hp : tmps.getD p undef = .pointer (some ⟨g, 0, none⟩)) (hg : NmAt w g ty x)
    (hu : P.underlying ty = some d) (hd : (match d with | .struct _ | .array _ _ => true | _ => false) = true) (hi : (P.info? ty).map (·.size) = some 1) :
    (results fn tmps).run P w = .ok (.tuple #[.agg #[.string x], tmps.getD u undef]) w := by
  rw [results_cell_tmp h, hp]
  have hl := run_loadVar_row w g ty ty #[.string x] (0, 0) d hg hu hd hi
  simp [asAddr, Result.andThen, hl]
/-- the result's cell is stored into -/
theorem NmAt.put {W : World} {g t : Nat} {x : ByteArray} (h : NmAt W g t x) (y : ByteArray) : NmAt (W.setCell ⟨g, 0, none⟩ (.string y)) g t y := heap_setCell_cells h 0 (.string y)
theorem NmAt.free {W : World} {g t : Nat} {x : ByteArray} (h : NmAt W g t x) (i : Nat) : W.frozen? ⟨g, i, none⟩ = false := unfrozen_of_cells h i

theorem nmW_size : (Tryd.prog.info? 26).map (·.size) = some 1 := by kernel_rfl
set_option maxHeartbeats 2000000 in
set_option maxRecDepth 100000 in
theorem makeW_any (b : ByteArray) (w : World) (hb : b.size ≤ 100000) : Calls Tryd.prog 7 #[.string b] w fun e w' => e = .returned (if b.size = 32 then .tuple #[.agg #[.string b], .int .i64 0] else .tuple #[.agg #[.string ⟨#[]⟩], .int .i64 3]) ∧ Below w.heap.size w w' := by
  have HS := Lib.hid (fun W => Space_any b W)
  have HN := Lib.hid (fun W => numberW_any W)
  have HP := Lib.hid (And.intro (nm_new w 26 ⟨#[]⟩) ((Below.refl _ w).alloc (Nat.le_refl _) (.cells #[.string ⟨#[]⟩] 26)))
  by_cases h : b.size = 32
  · rw [if_pos h]
    rw [show spaceN b.size = 2 from by rw [h]; rfl] at HS
    clear h
    go_enter Tryd.func7, Tryd.ntmps7
    go_wp2_with (first | (go_at_call 20; refine (HS.out _).mono ?_; rintro r w2 ⟨rfl, rfl⟩) | (go_at_call 21; refine (HN.out _).mono ?_; rintro r w2 ⟨rfl, hb2⟩; have HP := Lib.hid (And.intro (HP.out.1.step hb2) (HP.out.2.trans (hb2.mono HP.out.2.size))); have c1 := HP.out.1.cell; have f1 := HP.out.1.free; clear hb2))
    exact bodyPost_ret (nm_cells Tryd.results7 _ _ w.heap.size b _ rfl (HP.out.1.put b) Tryd.underlying26 rfl nmW_size) rfl ⟨rfl, HP.out.2.setCell (p := ⟨w.heap.size, 0, none⟩) (Nat.le_refl _) _⟩
  · rw [if_neg h]
    have hs : spaceN b.size ≠ 2 := by intro e; unfold spaceN at e; split at e <;> first | omega | (split at e <;> omega)
    generalize spaceN b.size = sp at *
    have h0 : (sp == 2) = false := beq_eq_false_iff_ne.2 hs
    have h1 : (sp != 2) = true := by simp [hs]
    clear h
    by_cases hz : sp = 0
    · subst hz
      clear h0 h1 hs
      go_enter Tryd.func7, Tryd.ntmps7
      have c1 := HP.out.1.cell; have f1 := HP.out.1.free
      go_wp2_with (first | (go_at_call 20; refine (HS.out _).mono ?_; rintro r w2 ⟨rfl, rfl⟩) | (go_at_call 21; refine (HN.out _).mono ?_; rintro r w2 ⟨rfl, hb2⟩; have HP := Lib.hid (And.intro (HP.out.1.step hb2) (HP.out.2.trans (hb2.mono HP.out.2.size))); have c1 := HP.out.1.cell; have f1 := HP.out.1.free; clear hb2))
      exact bodyPost_ret (nm_cells Tryd.results7 _ _ w.heap.size ⟨#[]⟩ _ rfl HP.out.1 Tryd.underlying26 rfl nmW_size) rfl ⟨rfl, HP.out.2⟩
    · have z0 : (sp == 0) = false := beq_eq_false_iff_ne.2 hz
      have z1 : (sp != 0) = true := by simp [hz]
      clear hz hs
      go_enter Tryd.func7, Tryd.ntmps7
      go_wp2_with (first | (go_at_call 20; refine (HS.out _).mono ?_; rintro r w2 ⟨rfl, rfl⟩) | (go_at_call 21; refine (HN.out _).mono ?_; rintro r w2 ⟨rfl, hb2⟩; have HP := Lib.hid (And.intro (HP.out.1.step hb2) (HP.out.2.trans (hb2.mono HP.out.2.size))); have c1 := HP.out.1.cell; have f1 := HP.out.1.free; clear hb2))
      exact bodyPost_ret (nm_cells Tryd.results7 _ _ w.heap.size ⟨#[]⟩ _ rfl (HP.out.1.put ⟨#[]⟩) Tryd.underlying26 rfl nmW_size) rfl ⟨rfl, HP.out.2.setCell (p := ⟨w.heap.size, 0, none⟩) (Nat.le_refl _) _⟩

theorem nmN_size : (Tryd.prog.info? 35).map (·.size) = some 1 := by kernel_rfl
set_option maxHeartbeats 2000000 in
set_option maxRecDepth 100000 in
theorem makeN_any (b : ByteArray) (w : World) (hb : b.size ≤ 100000) : Calls Tryd.prog 8 #[.string b] w fun e w' => e = .returned (if b.size = 20 then .tuple #[.agg #[.string b], .int .i64 0] else .tuple #[.agg #[.string ⟨#[]⟩], .int .i64 3]) ∧ Below w.heap.size w w' := by
  have HS := Lib.hid (fun W => Space_any b W)
  have HN := Lib.hid (fun W => numberN_any W)
  have HP := Lib.hid (And.intro (nm_new w 35 ⟨#[]⟩) ((Below.refl _ w).alloc (Nat.le_refl _) (.cells #[.string ⟨#[]⟩] 35)))
  by_cases h : b.size = 20
  · rw [if_pos h]
    rw [show spaceN b.size = 1 from by rw [h]; rfl] at HS
    clear h
    go_enter Tryd.func8, Tryd.ntmps8
    go_wp2_with (first | (go_at_call 20; refine (HS.out _).mono ?_; rintro r w2 ⟨rfl, rfl⟩) | (go_at_call 22; refine (HN.out _).mono ?_; rintro r w2 ⟨rfl, hb2⟩; have HP := Lib.hid (And.intro (HP.out.1.step hb2) (HP.out.2.trans (hb2.mono HP.out.2.size))); have c1 := HP.out.1.cell; have f1 := HP.out.1.free; clear hb2))
    exact bodyPost_ret (nm_cells Tryd.results8 _ _ w.heap.size b _ rfl (HP.out.1.put b) Tryd.underlying35 rfl nmN_size) rfl ⟨rfl, HP.out.2.setCell (p := ⟨w.heap.size, 0, none⟩) (Nat.le_refl _) _⟩
  · rw [if_neg h]
    have hs : spaceN b.size ≠ 1 := by intro e; unfold spaceN at e; split at e <;> first | omega | (split at e <;> omega)
    generalize spaceN b.size = sp at *
    have h0 : (sp == 1) = false := beq_eq_false_iff_ne.2 hs
    have h1 : (sp != 1) = true := by simp [hs]
    clear h
    by_cases hz : sp = 0
    · subst hz
      clear h0 h1 hs
      go_enter Tryd.func8, Tryd.ntmps8
      have c1 := HP.out.1.cell; have f1 := HP.out.1.free
      go_wp2_with (first | (go_at_call 20; refine (HS.out _).mono ?_; rintro r w2 ⟨rfl, rfl⟩) | (go_at_call 22; refine (HN.out _).mono ?_; rintro r w2 ⟨rfl, hb2⟩; have HP := Lib.hid (And.intro (HP.out.1.step hb2) (HP.out.2.trans (hb2.mono HP.out.2.size))); have c1 := HP.out.1.cell; have f1 := HP.out.1.free; clear hb2))
      exact bodyPost_ret (nm_cells Tryd.results8 _ _ w.heap.size ⟨#[]⟩ _ rfl HP.out.1 Tryd.underlying35 rfl nmN_size) rfl ⟨rfl, HP.out.2⟩
    · have z0 : (sp == 0) = false := beq_eq_false_iff_ne.2 hz
      have z1 : (sp != 0) = true := by simp [hz]
      clear hz hs
      go_enter Tryd.func8, Tryd.ntmps8
      go_wp2_with (first | (go_at_call 20; refine (HS.out _).mono ?_; rintro r w2 ⟨rfl, rfl⟩) | (go_at_call 22; refine (HN.out _).mono ?_; rintro r w2 ⟨rfl, hb2⟩; have HP := Lib.hid (And.intro (HP.out.1.step hb2) (HP.out.2.trans (hb2.mono HP.out.2.size))); have c1 := HP.out.1.cell; have f1 := HP.out.1.free; clear hb2))
      exact bodyPost_ret (nm_cells Tryd.results8 _ _ w.heap.size ⟨#[]⟩ _ rfl (HP.out.1.put ⟨#[]⟩) Tryd.underlying35 rfl nmN_size) rfl ⟨rfl, HP.out.2.setCell (p := ⟨w.heap.size, 0, none⟩) (Nat.le_refl _) _⟩
end Go.Proofs.YtmbbigmnliiadaaDoor.Hi
namespace Go.Proofs.YtmbbigmnliiadaaDoor.Idf
theorem dec_lib (n : Nat) : Lib.decDigits n = dec n := by
  induction n using Nat.strongRecOn with
  | _ n ih =>
    by_cases h : n < 10
    · rw [Lib.decDigits, dif_pos h, dec_small h]
    · rw [Lib.decDigits, dif_neg h, dec_big h, ih (n / 10) (by omega)]
theorem itoa_lib (n : Nat) : Lib.itoa (n : Int) = dec n := by
  unfold Lib.itoa
  rw [if_neg (by omega), Int.toNat_natCast, dec_lib]
end Go.Proofs.YtmbbigmnliiadaaDoor.Idf
