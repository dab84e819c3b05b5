/-
  Layer 11, the program's side: the closures that take lines off what is left of a content; a tree's entries.
-/
import Derived.Test.YtapjgdhdgpakhaaGreatDoorR1
import Derived.Test.YtapjgdhdgpakhaaGreatDoorRc
namespace Go.Proofs.YtapjgdhdgpakhaaGreatDoor.Hj
open Go.RowKit Ob Hr
set_option linter.unusedVariables false

theorem rent_len : ∀ a : Ent, (entV a).length = 3 := fun _ => rfl
theorem rent_one : ∀ (a : Ent) (u : Value), u ∈ entV a → u.oneCell' = true := by
  intro a u hu
  simp [entV] at hu
  rcases hu with rfl | rfl | rfl <;> rfl
theorem rent_elem : ∃ i0, ElemOf 22 44 3 i0 (.agg #[.int .i64 0, .string ByteArray.empty, .string ByteArray.empty]) 40 := mkElem Tryz.underlying22 (by kernel_rfl) rfl (by decide) (by decide)
theorem rown_ents {w : World} {B n : Nat} {v : Value} {l : List Ent} (h : w.ownsRow B 44 3 v n (l.flatMap entV)) : ∃ A c, v = .slice A l.length c := by
  obtain ⟨A, c, e, _⟩ := recs_own rent_len (by omega) h
  exact ⟨A, c, e⟩
theorem rone_ent (w : World) (x : Ent) : Recs 3 entV (w.alloc (.cells #[.int .i64 x.mode, .string x.name, .string x.id] 44)) (w.heap.size + 1) (some ⟨w.heap.size, 0, none⟩) [x] := fun i hi => by
  have hi0 : i = 0 := by simpa using hi
  subst hi0
  refine ⟨_, rfl, by simp, fun j' hj' => ?_⟩
  have hblk := heap_alloc_new w (.cells #[.int .i64 x.mode, .string x.name, .string x.id] 44)
  rw [add_add, Addr.add_lit]
  simp only [World.cell?, hblk]
  have h2 : j' = 0 ∨ j' = 1 ∨ j' = 2 := by omega
  rcases h2 with rfl | rfl | rfl <;> rfl
def stV (s : ByteArray) : List Value := [.string s]
theorem rst_len : ∀ a : ByteArray, (stV a).length = 1 := fun _ => rfl
theorem rst_one : ∀ (a : ByteArray) (u : Value), u ∈ stV a → u.oneCell' = true := by
  intro a u hu
  simp [stV] at hu
  subst hu; rfl
theorem rst_elem : ∃ i, ElemOf 23 9 1 i (.string ByteArray.empty) 16 := mkElem Tryz.underlying23 (by kernel_rfl) rfl (by omega) (by omega)
theorem rone_st (w : World) (x : ByteArray) : Recs 1 stV (w.alloc (.cells #[.string x] 9)) (w.heap.size + 1) (some ⟨w.heap.size, 0, none⟩) [x] := fun i hi => by
  have hi0 : i = 0 := by simpa using hi
  subst hi0
  refine ⟨_, rfl, by simp, fun j' hj' => ?_⟩
  obtain rfl : j' = 0 := by omega
  exact (box_new w 9 #[.string x]).cell 0
theorem rown_strs {w : World} {B n : Nat} {v : Value} {l : List ByteArray} (h : w.ownsRow B 9 1 v n (l.flatMap stV)) : ∃ A c, v = .slice A l.length c := by
  obtain ⟨A, c, e, _⟩ := recs_own rst_len (by omega) h
  exact ⟨A, c, e⟩

/-- all blocks but one are as they were -/
structure But (g : Nat) (w w' : World) : Prop where
  os : w'.os = w.os
  tape : w'.tape = w.tape
  output : w'.output = w.output
  size : w.heap.size ≤ w'.heap.size
  block : ∀ k, k < w.heap.size → k ≠ g → w'.heap[k]? = w.heap[k]?
theorem But.of {g : Nat} {w w' : World} (h : Below w.heap.size w w') : But g w w' := ⟨h.os, h.tape, h.output, h.size, fun k hk _ => h.block k hk⟩
theorem But.trans {g : Nat} {a b c : World} (h : But g a b) (k : But g b c) : But g a c :=
  ⟨k.os.trans h.os, k.tape.trans h.tape, k.output.trans h.output, Nat.le_trans h.size k.size, fun i hi hg => (k.block i (Nat.lt_of_lt_of_le hi h.size) hg).trans (h.block i hi hg)⟩
theorem But.set (w : World) (g i : Nat) (u : Value) : But g w (w.setCell ⟨g, i, none⟩ u) := ⟨rfl, rfl, rfl, by simp [World.setCell], fun k _ hg => Below.heap_setCell _ _ _ _ hg⟩
theorem But.below {g B : Nat} {w w' : World} (h : But g w w') (h1 : B ≤ g) (h2 : B ≤ w.heap.size) : Below B w w' := ⟨h.os, h.tape, h.output, h.size, fun k hk => h.block k (by omega) (by omega)⟩
theorem BoxAt.but {g b t : Nat} {w w' : World} {cs : Array Value} (h : BoxAt w b t cs) (hb : But g w w') (hg : b ≠ g) : BoxAt w' b t cs := (hb.block b h.lt hg).trans h
theorem own_but {g B e k n : Nat} {w w' : World} {v : Value} {xs : List Value} (h : w.ownsRow B e k v n xs) (hb : But g w w') (hg : g < B) : w'.ownsRow B e k v n xs :=
  ⟨h.1, h.2.imp (fun h0 => h0) fun ⟨g', cap, cur, hv, h1, h2, hr⟩ => ⟨g', cap, cur, hv, h1, (hb.block g' (Array.getElem?_eq_some_iff.1 h2).1 (by omega)).trans h2, hr⟩⟩
theorem own_below {B e k n : Nat} {w w' : World} {v : Value} {xs : List Value} (h : w.ownsRow B e k v n xs) (hb : Below w.heap.size w w') : w'.ownsRow B e k v n xs :=
  ⟨h.1, h.2.imp (fun h0 => h0) fun ⟨g', cap, cur, hv, h1, h2, hr⟩ => ⟨g', cap, cur, hv, h1, (hb.block g' (Array.getElem?_eq_some_iff.1 h2).1).trans h2, hr⟩⟩
/-- what is left of a content, in a block of its own -/
abbrev Rest (w : World) (g : Nat) (l : List UInt8) : Prop := BoxAt w g 9 #[.string (str l)]
theorem Rest.set {w : World} {g : Nat} {l : List UInt8} (h : Rest w g l) (l' : List UInt8) : Rest (w.setCell ⟨g, 0, none⟩ (.string (str l'))) g l' := Hg.heap_setCell_cells h 0 _

set_option maxHeartbeats 2000000 in
set_option maxRecDepth 100000 in
theorem rline_any (w : World) (g : Nat) (wd : ByteArray) (l : List UInt8) (h : Rest w g l) (hw : wd.size ≤ 100) (hl : l.length ≤ 100000) :
    Calls Tryz.prog 59 #[.string wd, .pointer (some ⟨g, 0, none⟩)] w fun e w' => e = .returned (.string (str (lineL (bl wd) l).1)) ∧ Rest w' g (lineL (bl wd) l).2 ∧ But g w w' := by
  have HC := Lib.hid (cut_any (str l) 10 w (by rw [str_size]; omega))
  unfold cutV at HC
  rw [bl_str] at HC
  have HT := Lib.hid (fun W => show Calls Tryz.prog 61 #[.string (str (cutN 10 l).1), .string (wd ++ ⟨#[32]⟩)] W fun e w' => e = .returned (.string (str (lineL (bl wd) l).1)) ∧ w' = W from by
    have := Tryz.strings_TrimPrefix (str (cutN 10 l).1) (wd ++ ⟨#[32]⟩) W
    rw [show (str (cutN 10 l).1).data.toList = (cutN 10 l).1 from bl_str _, show (wd ++ ⟨#[32]⟩ : ByteArray).data.toList = bl wd ++ [32] from bl_append _ _] at this
    exact this)
  have HL2 := Lib.hid (show (lineL (bl wd) l).2 = (cutN 10 l).2 from rfl)
  rw [HL2.out]
  have HR := Lib.hid h
  have c0 := h.cell 0
  have hcat : ¬ 9223372036854775807 < wd.size + (⟨#[32]⟩ : ByteArray).size := by show ¬ _ < wd.size + 1; omega
  have hcat2 : wd.size ≤ 9223372036854775806 := by omega
  clear h hw hl HL2
  generalize (lineL (bl wd) l).1 = first at *
  generalize (cutN 10 l).1 = a at *
  generalize (cutN 10 l).2 = b at *
  go_enter Tryz.func59, Tryz.ntmps59
  go_wp2_with (first
    | (go_at_call 60; refine HC.out.mono ?_; rintro r w2 ⟨⟨bb, rfl⟩, hb2⟩; have HR := Lib.hid (And.intro (HR.out.step hb2) (But.of (g := g) hb2)); have c0 := HR.out.1.cell 0; have f0 := HR.out.1.free 0; clear hb2)
    | (go_at_call 61; refine (HT.out _).mono ?_; rintro r w3 ⟨rfl, rfl⟩))
  go_ret
  exact ⟨rfl, Rest.set HR.out.1 b, HR.out.2.trans (But.set _ _ _ _)⟩

set_option maxHeartbeats 2000000 in
set_option maxRecDepth 100000 in
theorem rtake_any (w : World) (g : Nat) (c : UInt8) (l : List UInt8) (h : Rest w g l) (hl : l.length ≤ 100000) :
    Calls Tryz.prog 88 #[.string ⟨#[c]⟩, .pointer (some ⟨g, 0, none⟩)] w fun e w' => e = .returned (.string (str (cutN c l).1)) ∧ Rest w' g (cutN c l).2 ∧ But g w w' := by
  have HC := Lib.hid (cut_any (str l) c w (by rw [str_size]; omega))
  unfold cutV at HC
  rw [bl_str] at HC
  have HR := Lib.hid h
  have c0 := h.cell 0
  clear h hl
  generalize (cutN c l).1 = a at *
  generalize (cutN c l).2 = b at *
  go_enter Tryz.func88, Tryz.ntmps88
  go_wp2_with (go_at_call 60; refine HC.out.mono ?_; rintro r w2 ⟨⟨bb, rfl⟩, hb2⟩; have HR := Lib.hid (And.intro (HR.out.step hb2) (But.of (g := g) hb2)); have c0 := HR.out.1.cell 0; have f0 := HR.out.1.free 0; clear hb2)
  go_ret
  exact ⟨rfl, Rest.set HR.out.1 b, HR.out.2.trans (But.set _ _ _ _)⟩

def FnL (g : Nat) : Value := .func (.func 59) #[] #[.pointer (some ⟨g, 0, none⟩)]
set_option maxHeartbeats 2000000 in
set_option maxRecDepth 100000 in
theorem rnamed_any (w : World) (g f : Nat) (wd : ByteArray) (l : List UInt8) (h : Rest w g l) (hf : BoxAt w f 75 #[FnL g]) (hw : wd.size ≤ 100) (hl : l.length ≤ 100000) :
    Calls Tryz.prog 62 #[.string wd, .pointer (some ⟨f, 0, none⟩)] w fun e w' => e = .returned (.string (namedL (bl wd) l).1) ∧ Rest w' g (namedL (bl wd) l).2 ∧ But g w w' := by
  have HL := Lib.hid (rline_any w g wd l h hw hl)
  have HB := Lib.hid (fun W => Bytes_any (str (lineL (bl wd) l).1) W (by have := (lineL_size (bl wd) l).1; rw [str_size]; omega))
  rw [bl_str] at HB
  have HX := Lib.hid (show (namedL (bl wd) l).2 = (lineL (bl wd) l).2 ∧ (namedL (bl wd) l).1 = str (M.unb (lineL (bl wd) l).1) from ⟨rfl, rfl⟩)
  rw [HX.out.1, HX.out.2]
  have c0 : w.cell? ⟨f, 0, none⟩ = some (.func (.func 59) #[] #[.pointer (some ⟨g, 0, none⟩)]) := hf.cell 0
  clear h hw hl hf HX
  generalize (lineL (bl wd) l).1 = first at *
  generalize (lineL (bl wd) l).2 = b at *
  generalize str (M.unb first) = id at *
  generalize M.unc first = er at *
  go_enter Tryz.func62, Tryz.ntmps62
  go_wp2_with (first
    | (go_at_call 59; refine HL.out.mono ?_; rintro r w2 ⟨rfl, h2, hb2⟩)
    | (go_at_call 63; refine (HB.out _).mono ?_; rintro r w3 ⟨rfl, hb3⟩))
  go_ret
  exact ⟨rfl, h2.step hb3, hb2.trans (But.of hb3)⟩
end Go.Proofs.YtapjgdhdgpakhaaGreatDoor.Hj
