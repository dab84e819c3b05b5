/-
  Layer 11, the program's side: what is known of the world (the powers of ten, the errors of strconv); the builder; a line.
-/
import Derived.Test.YtapjgdhdgpakhaaGreatDoorO1
import Derived.Test.YtapjgdhdgpakhaaGreatDoorOy
import Derived.Test.YtapjgdhdgpakhaaGreatDoorO2
import Derived.Test.YtapjgdhdgpakhaaGreatDoorHeld
import Derived.Test.YtapjgdhdgpakhaaGreatDoorIp
import Derived.Lib.LaidTab
import Derived.Lib.SmallJoins
import Derived.Lib.ItoaNum
import Derived.Lib.OthersKept
import Derived.Shelf.Strings.BuilderK
namespace Go.Proofs.YtapjgdhdgpakhaaGreatDoor.Hj
open Go.RowKit Ob Hr
set_option linter.unusedVariables false

/-- the library's tables and errors lie in their place -/
structure Kw (w : World) : Prop where
  tab : Lib.TabIs Tryz.prog w "internal/strconv.uint64pow10" .u64 Lib.pow10Tab
  bad : ∃ t p, w.cell? ⟨2, 0, none⟩ = some (.iface t p)
  far : ∃ t p, w.cell? ⟨3, 0, none⟩ = some (.iface t p)
theorem Kw.under {w w' : World} (h : Kw w) (hb : Below w.heap.size w w') : Kw w' := by
  refine ⟨Joins.tab_stays (g := 1) (by kernel_rfl) h.tab hb (Nat.le_refl _), ?_, ?_⟩
  · obtain ⟨t, p, hc⟩ := h.bad
    exact ⟨t, p, (hb.cell (World.block_lt_of_cell? w _ hc)).trans hc⟩
  · obtain ⟨t, p, hc⟩ := h.far
    exact ⟨t, p, (hb.cell (World.block_lt_of_cell? w _ hc)).trans hc⟩

theorem below_grow (w : World) (k : Nat) (os : Array Obj) : Below w.heap.size w (Sort.grow (w.drewN k) os) :=
  ⟨rfl, rfl, rfl, by simp [World.drewN], fun i hi => Sort.heap_grow_old (w.drewN k) os hi⟩
theorem pitoa_any (n : Int) (w : World) (hK : Kw w) (h0 : 0 ≤ n) (hn : n ≤ 2147483647) : Calls Tryz.prog 50 #[.int .i64 n] w fun e w' => e = .returned (.string (str (Idf.dec n.toNat))) ∧ Below w.heap.size w w' :=
  (Tryz.strconv_Itoa n (by omega) (by omega) w hK.tab).mono (by
    rintro e w' ⟨rfl, k, os, rfl⟩
    have := Idf.itoa_lib n.toNat
    rw [Int.toNat_of_nonneg h0] at this
    exact ⟨by rw [this]; rfl, below_grow w k os⟩)

/-! ### the builder -/
abbrev Bd (B g : Nat) (l : List UInt8) (w : World) : Prop := Lib.IsBuilderF 67 5 B g (Lib.byteCells l) w
theorem kept_below {e : TypeId} {b : Option Nat} {w w' : World} (h : Below w.heap.size w w') : Lib.OthersKept e b w w' := fun k o hk _ _ => by
  rw [h.block k (Array.getElem?_eq_some_iff.1 hk).1]; exact hk
theorem bdAt_below {T e : TypeId} {B b : Nat} {p : Value} {bs : List Value} {w w' : World} (h : Lib.BuilderAtF T e B b p bs w) (hb : Below w.heap.size w w') : Lib.BuilderAtF T e B b p bs w' := by
  obtain ⟨h1, v, h2, h3, h4⟩ := h
  refine ⟨h1, v, by rw [hb.block b (Array.getElem?_eq_some_iff.1 h2).1]; exact h2, ?_, h4⟩
  obtain ⟨k1, k2⟩ := h3
  refine ⟨k1, ?_⟩
  rcases k2 with ⟨h5, h6⟩ | ⟨g, cap, cur, fz, h5, h6, h7, h8⟩
  · exact .inl ⟨h5, h6⟩
  · exact .inr ⟨g, cap, cur, fz, h5, h6, by rw [hb.block g (Array.getElem?_eq_some_iff.1 h7).1]; exact h7, h8⟩
theorem Bd.below {B g : Nat} {l : List UInt8} {w w' : World} (h : Bd B g l w) (hb : Below w.heap.size w w') : Bd B g l w' := by
  rcases h with h | h
  · exact .inl (bdAt_below h hb)
  · exact .inr (bdAt_below h hb)
theorem cells_snoc (l : List UInt8) (s : ByteArray) : Lib.byteCells l ++ Lib.strCells s = Lib.byteCells (l ++ bl s) := by simp [Lib.byteCells, Lib.strCells, bl]
theorem cells_len (l : List UInt8) : (Lib.byteCells l).length = l.length := by simp [Lib.byteCells]
theorem write_any (B g : Nat) (l : List UInt8) (s : ByteArray) (w : World) (h : Bd B g l w) (hB : B ≤ w.heap.size) (hl : l.length + s.size ≤ 100000000) :
    Calls Tryz.prog 47 #[.pointer (some ⟨g, 0, none⟩), .string s] w fun e w' => e = .returned (.tuple #[.int .i64 s.size, .nilIface]) ∧ Bd B g (l ++ bl s) w' ∧ Below B w w' ∧ Lib.OthersKept 5 (some g) w w' :=
  (Any.Builder_WriteString_k (ρ := Tryz.lays156_ren) { Tryz.lays156 with } Tryz.Builder_Extra_156 B g (Lib.byteCells l) s w h (by rw [cells_len]; omega) hB).mono (by
    rintro e w' ⟨rfl, h1, h2, h3⟩
    exact ⟨rfl, .inr (by rw [← cells_snoc]; exact h1), h2, h3⟩)
theorem text_any (B g : Nat) (l : List UInt8) (w : World) (h : Bd B g l w) (hB : B ≤ w.heap.size) :
    Calls Tryz.prog 53 #[.pointer (some ⟨g, 0, none⟩)] w fun e w' => e = .returned (.string (str l)) ∧ Below B w w' :=
  (Tryz.Builder_String_any_k B g l w h hB).mono (by
    rintro e w' ⟨rfl, h1, h2, h3⟩
    exact ⟨rfl, h2⟩)

/-- what a line says -/
def joinL (xs : List ByteArray) : List UInt8 := Lib.join (xs.map bl) [32]
theorem join2 (a b : ByteArray) : joinL [a, b] = bl a ++ 32 :: bl b := by simp [joinL, Lib.join, List.intercalate, List.intersperse]
theorem join3 (a b c : ByteArray) : joinL [a, b, c] = bl a ++ 32 :: (bl b ++ 32 :: bl c) := by simp [joinL, Lib.join, List.intercalate, List.intersperse]
set_option maxHeartbeats 2000000 in
set_option maxRecDepth 100000 in
theorem line_any (B g bk c : Nat) (xs : List ByteArray) (l : List UInt8) (w : World) (h : Bd B g l w) (hB : B ≤ w.heap.size) (hcells : ∀ (j : Nat) x, xs[j]? = some x → w.cell? ⟨bk, j, none⟩ = some (.string x)) (hbk : bk < w.heap.size) (hc : xs.length ≤ c)
    (hN : xs.length ≤ 1000) (hj : (joinL xs).length ≤ 10000000) (hl : l.length ≤ 10000000) :
    Calls Tryz.prog 46 #[.slice (some ⟨bk, 0, none⟩) xs.length c, .pointer (some ⟨g, 0, none⟩)] w fun e w' => e = .returned (.tuple #[]) ∧ Bd B g (l ++ joinL xs ++ [10]) w' ∧ Below B w w' ∧ Lib.OthersKept 5 (some g) w w' := by
  have HJ := Lib.hid (show Calls Tryz.prog 48 #[.slice (some ⟨bk, 0, none⟩) xs.length c, .string ⟨#[32]⟩] w fun e w' => e = .returned (.string (str (joinL xs))) ∧ Below w.heap.size w w' from
    Tryz.strings_Join bk 0 c xs ⟨#[32]⟩ w (fun j x hx => by rw [Nat.zero_add]; exact hcells j x hx) hbk (by omega) hc (by show (joinL xs).length ≤ _; omega))
  have HW := Lib.hid (fun W (hb : Bd B g l W) (h1 : B ≤ W.heap.size) => write_any B g l (str (joinL xs)) W hb h1 (by rw [str_size]; omega))
  have HW2 := Lib.hid (fun W (hb : Bd B g (l ++ joinL xs) W) (h1 : B ≤ W.heap.size) => write_any B g (l ++ joinL xs) ⟨#[10]⟩ W hb h1 (by rw [List.length_append]; show _ + 1 ≤ _; omega))
  rw [bl_str] at HW
  have HB := Lib.hid (And.intro h hB)
  clear h hB hcells hbk
  generalize joinL xs = q at *
  go_enter Tryz.func46, Tryz.ntmps46
  go_wp2_with (first
    | (go_at_call 48; refine HJ.out.mono ?_; rintro r w2 ⟨rfl, hb2⟩; have HB := Lib.hid (show Bd B g l w2 ∧ B ≤ w2.heap.size ∧ Below B w w2 ∧ Lib.OthersKept 5 (some g) w w2 from ⟨HB.out.1.below hb2, Nat.le_trans HB.out.2 hb2.size, hb2.mono HB.out.2, kept_below hb2⟩); clear hb2)
    | (go_at_call 47; first
        | (with_reducible refine (HW.out _ HB.out.1 HB.out.2.1).mono ?_; rintro r w3 ⟨rfl, h3, hb3, hk3⟩; have HC := Lib.hid (show Bd B g (l ++ q) w3 ∧ B ≤ w3.heap.size ∧ Below B w w3 ∧ Lib.OthersKept 5 (some g) w w3 from ⟨h3, Nat.le_trans HB.out.2.1 hb3.size, HB.out.2.2.1.trans hb3, HB.out.2.2.2.trans hk3⟩); clear h3 hb3 hk3)
        | (with_reducible refine (HW2.out _ HC.out.1 HC.out.2.1).mono ?_; rintro r w4 ⟨rfl, h4, hb4, hk4⟩)))
  go_end0
  exact ⟨rfl, h4, HC.out.2.2.1.trans hb4, HC.out.2.2.2.trans hk4⟩
end Go.Proofs.YtapjgdhdgpakhaaGreatDoor.Hj
