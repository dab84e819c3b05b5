/-
  Layer 11, the program's side: what stands ahead of an object's text (head), written by closures into a builder.
-/
import Derived.Test.YtapjgdhdgpakhaaGreatDoorO5
import Derived.Test.YtapjgdhdgpakhaaGreatDoorOv
namespace Go.Proofs.YtapjgdhdgpakhaaGreatDoor.Hj
open Go.RowKit Ob Hr
set_option linter.unusedVariables false

/-- head's own blocks: the object, the builder, the closure that writes a line -/
structure Hv (w W : World) (o : Thing) (A : Option Addr) (c : Nat) (P : Option Addr) (d : Nat) (l : List UInt8) : Prop where
  box : BoxAt W w.heap.size 25 (objC o A c P d)
  bd : Bd w.heap.size (w.heap.size + 1) l W
  fn : BoxAt W (w.heap.size + 2) 73 #[.func (.func 46) #[] #[.pointer (some ⟨w.heap.size + 1, 0, none⟩)]]
  below : Below w.heap.size w W
section
variable {w W W' : World} {o : Thing} {A : Option Addr} {c : Nat} {P : Option Addr} {d : Nat} {l l' : List UInt8}
theorem Hv.step (h : Hv w W o A c P d l) (hb : Below W.heap.size W W') : Hv w W' o A c P d l := ⟨h.box.step hb, h.bd.below hb, h.fn.step hb, h.below.trans (hb.mono h.below.size)⟩
theorem Hv.drew (h : Hv w W o A c P d l) : Hv w W.drew o A c P d l := h.step (Below.refl _ W).drew
theorem BoxAt.kept {g t : Nat} {cs : Array Value} {b : Nat} (h : BoxAt W g t cs) (hk : Lib.OthersKept 5 (some b) W W') (h1 : g ≠ b) (h2 : t ≠ 5) : BoxAt W' g t cs :=
  hk g _ h (fun e => h1 (Option.some.inj e)) (fun c fz e => by injection e with e1 e2; exact h2 e2)
theorem Hv.turn (h : Hv w W o A c P d l) (h1 : Bd w.heap.size (w.heap.size + 1) l' W') (h2 : Below w.heap.size W W') (h3 : Lib.OthersKept 5 (some (w.heap.size + 1)) W W') : Hv w W' o A c P d l' :=
  ⟨h.box.kept h3 (by omega) (by decide), h1, h.fn.kept h3 (by omega) (by decide), h.below.trans h2⟩
end
theorem hv_new (w : World) (o : Thing) (A : Option Addr) (c : Nat) (P : Option Addr) (d : Nat) : Hv w (((w.alloc (.cells (objC o A c P d) 25 (0, 0))).alloc (.cells #[.pointer none, .slice none 0 0] 67 (0, 0))).alloc (.cells #[.func (.func 46) #[] #[.pointer (some ⟨w.heap.size + 1, 0, none⟩)]] 73 (0, 0))) o A c P d [] := by
  have h := two_new w 25 67 (objC o A c P d) #[.pointer none, .slice none 0 0]
  have hb : Below ((w.alloc (.cells (objC o A c P d) 25 (0, 0))).alloc (.cells #[.pointer none, .slice none 0 0] 67 (0, 0))).heap.size _ (((w.alloc (.cells (objC o A c P d) 25 (0, 0))).alloc (.cells #[.pointer none, .slice none 0 0] 67 (0, 0))).alloc (.cells #[.func (.func 46) #[] #[.pointer (some ⟨w.heap.size + 1, 0, none⟩)]] 73 (0, 0))) := (Below.refl _ _).alloc (Nat.le_refl _) _
  have hn := box_new ((w.alloc (.cells (objC o A c P d) 25 (0, 0))).alloc (.cells #[.pointer none, .slice none 0 0] 67 (0, 0))) 73 #[.func (.func 46) #[] #[.pointer (some ⟨w.heap.size + 1, 0, none⟩)]]
  have hs : ((w.alloc (.cells (objC o A c P d) 25 (0, 0))).alloc (.cells #[.pointer none, .slice none 0 0] 67 (0, 0))).heap.size = w.heap.size + 2 := by simp
  rw [hs] at hn
  exact ⟨h.a.step hb, .inl ⟨by omega, _, h.b.step hb, World.ownsRowF_nil _ _ _ _, by simp [Value.ownBlock]⟩, hn, h.below.trans (hb.mono h.below.size)⟩
theorem row_cells {W : World} {bk : Nat} {xs : List ByteArray} (h : BoxAt W bk 9 (xs.map Value.string).toArray) : ∀ (j : Nat) x, xs[j]? = some x → W.cell? ⟨bk, j, none⟩ = some (.string x) := fun j x hx => by
  rw [h.cell j]; simp [hx]

set_option maxHeartbeats 2000000 in
set_option maxRecDepth 100000 in
theorem lineNil_any (B g : Nat) (l : List UInt8) (w : World) (h : Bd B g l w) (hB : B ≤ w.heap.size) (hl : l.length ≤ 10000000) :
    Calls Tryz.prog 46 #[.slice none 0 0, .pointer (some ⟨g, 0, none⟩)] w fun e w' => e = .returned (.tuple #[]) ∧ Bd B g (l ++ [10]) w' ∧ Below B w w' ∧ Lib.OthersKept 5 (some g) w w' := by
  have HJ := Lib.hid (fun W => show Calls Tryz.prog 48 #[.slice none 0 0, .string ⟨#[32]⟩] W fun e w' => e = .returned (.string ⟨#[]⟩) ∧ w' = W from Any.strings_Join_none Tryz.lays156 Tryz.Builder_Extra_156 none 0 ⟨#[32]⟩ W)
  have HW := Lib.hid (fun W (hb : Bd B g l W) (h1 : B ≤ W.heap.size) => write_any B g l ⟨#[]⟩ W hb h1 (by show _ + 0 ≤ _; omega))
  have HW2 := Lib.hid (fun W (hb : Bd B g (l ++ bl ⟨#[]⟩) W) (h1 : B ≤ W.heap.size) => write_any B g (l ++ bl ⟨#[]⟩) ⟨#[10]⟩ W hb h1 (by rw [List.length_append]; show _ + 0 + 1 ≤ _; omega))
  have HB := Lib.hid (And.intro h hB)
  clear h hB
  go_enter Tryz.func46, Tryz.ntmps46
  go_wp2_with (first
    | (go_at_call 48; refine (HJ.out _).mono ?_; rintro r w2 ⟨rfl, rfl⟩)
    | (go_at_call 47; first
        | (with_reducible refine (HW.out _ HB.out.1 HB.out.2).mono ?_; rintro r w3 ⟨rfl, h3, hb3, hk3⟩; have HC := Lib.hid (And.intro h3 (And.intro (Nat.le_trans HB.out.2 hb3.size) (And.intro hb3 hk3))); clear h3 hb3 hk3)
        | (with_reducible refine (HW2.out _ HC.out.1 HC.out.2.1).mono ?_; rintro r w4 ⟨rfl, h4, hb4, hk4⟩)))
  go_end0
  exact ⟨rfl, by rw [show l ++ bl ⟨#[]⟩ ++ bl ⟨#[10]⟩ = l ++ [10] from by rw [show bl ⟨#[]⟩ = [] from rfl, List.append_nil]; rfl] at h4; exact h4, HC.out.2.2.1.trans hb4, HC.out.2.2.2.trans hk4⟩

set_option maxHeartbeats 4000000 in
set_option maxRecDepth 100000 in
theorem sign_any (w W : World) (o : Thing) (A : Option Addr) (c : Nat) (P : Option Addr) (d : Nat) (l : List UInt8) (wd : ByteArray) (h : Hv w W o A c P d l) (hK : Kw W) (hw : wd.size ≤ 100) (hwho : o.who.size ≤ 100000) (h0 : 0 ≤ o.time) (h1 : o.time ≤ 2147483647) (hl : l.length ≤ 1000000) :
    Calls Tryz.prog 49 #[.string wd, .pointer (some ⟨w.heap.size + 2, 0, none⟩), .pointer (some ⟨w.heap.size, 0, none⟩)] W fun e W' => e = .returned (.tuple #[]) ∧ Hv w W' o A c P d (l ++ line (bl wd) (signC o.who o.time) ++ [10]) := by
  have hdl := Idf.dec_len o.time.toNat 9 (by omega)
  have HI := Lib.hid (fun W' hk => pitoa_any o.time W' hk h0 h1)
  have HLN := Lib.hid (fun bk W' (hv : Hv w W' o A c P d l) (hc : ∀ (j : Nat) x, [wd, o.who, str (Idf.dec o.time.toNat)][j]? = some x → W'.cell? ⟨bk, j, none⟩ = some (.string x)) (hbk : bk < W'.heap.size) => show Calls Tryz.prog 46 #[.slice (some ⟨bk, 0, none⟩) 3 3, .pointer (some ⟨w.heap.size + 1, 0, none⟩)] W' fun e W2 => e = .returned (.tuple #[]) ∧ Hv w W2 o A c P d (l ++ line (bl wd) (signC o.who o.time)) from
    (line_any w.heap.size (w.heap.size + 1) bk 3 [wd, o.who, str (Idf.dec o.time.toNat)] l W' hv.bd hv.below.size hc hbk (Nat.le_refl _) (by simp) (by rw [join3]; simp only [List.length_append, List.length_cons, bl_length, bl_str]; omega) (by omega)).mono (by
      rintro e W2 ⟨rfl, k1, k2, k3⟩
      refine ⟨rfl, hv.turn ?_ k2 k3⟩
      rw [join3, bl_str] at k1
      rw [show l ++ line (bl wd) (signC o.who o.time) = l ++ (bl wd ++ 32 :: (bl o.who ++ 32 :: Idf.dec o.time.toNat)) ++ [10] from by simp [line, signC]]
      exact k1))
  have HNL := Lib.hid (fun W' (hv : Hv w W' o A c P d (l ++ line (bl wd) (signC o.who o.time))) => show Calls Tryz.prog 46 #[.slice none 0 0, .pointer (some ⟨w.heap.size + 1, 0, none⟩)] W' fun e W2 => e = .returned (.tuple #[]) ∧ Hv w W2 o A c P d (l ++ line (bl wd) (signC o.who o.time) ++ [10]) from
    (lineNil_any w.heap.size (w.heap.size + 1) (l ++ line (bl wd) (signC o.who o.time)) W' hv.bd hv.below.size (by simp only [line, signC, List.length_append, List.length_cons, bl_length, List.length_nil]; omega)).mono (by
      rintro e W2 ⟨rfl, k1, k2, k3⟩
      exact ⟨rfl, hv.turn k1 k2 k3⟩))
  have HV0 := Lib.hid (And.intro h hK)
  have hf0 := h.fn.cell 0
  obtain ⟨c0, c1, c2, c3, c4, c5, c6, c7, c8, c9⟩ := h.box.ten
  clear hdl hK hw hwho h0 h1 hl h
  go_enter Tryz.func49, Tryz.ntmps49
  go_wp2_with fail
  refine wp_region_seq (fun W' => ∃ l', Hv w W' o A c P d l') [(0, false, 0), (1, false, 1), (2, false, 3), (3, false, 7), (4, false, 15), (5, false, 31), (6, true, 63), (7, true, 127), (8, true, 255)]
    9 (by kernel_rfl) (by kernel_rfl) (by kernel_rfl) (fun d _ _ _ _ h => by cases d <;> exact h) (by kernel_rfl) (by kernel_rfl) (⟨_, HV0.out.1.drew⟩) ?_
  have HV0 := Lib.hid (And.intro HV0.out.1.drew (HV0.out.2.under (Below.refl _ W).drew))
  clear hf0 c0 c1 c2 c3 c4 c5 c6 c7 c8 c9
  generalize W.drew = W1 at *
  refine seqH_take (.func (.func 46) #[] #[.pointer (some ⟨w.heap.size + 1, 0, none⟩)]) rfl (Or.inl ⟨by rfl, fun W hW => by obtain ⟨l2, hh⟩ := hW; obtain ⟨c0, c1, c2, c3, c4, c5, c6, c7, c8, c9⟩ := hh.box.ten; have hfn := hh.fn.cell 0; clear hh; go_simp⟩) ?_
  go_simp
  refine seqH_take (.string wd) rfl (Or.inl ⟨by rfl, fun W hW => by go_simp⟩) ?_
  go_simp
  refine seqH_take (.pointer (some ⟨w.heap.size, 8, none⟩)) rfl (Or.inl ⟨by rfl, fun W hW => by go_simp⟩) ?_
  go_simp
  refine seqH_take (.string o.who) rfl (Or.inl ⟨by rfl, fun W hW => by obtain ⟨l2, hh⟩ := hW; obtain ⟨c0, c1, c2, c3, c4, c5, c6, c7, c8, c9⟩ := hh.box.ten; have hfn := hh.fn.cell 0; clear hh; go_simp⟩) ?_
  go_simp
  refine seqH_take (.pointer (some ⟨w.heap.size, 9, none⟩)) rfl (Or.inl ⟨by rfl, fun W hW => by go_simp⟩) ?_
  go_simp
  refine seqH_take (.int .i64 o.time) rfl (Or.inl ⟨by rfl, fun W hW => by obtain ⟨l2, hh⟩ := hW; obtain ⟨c0, c1, c2, c3, c4, c5, c6, c7, c8, c9⟩ := hh.box.ten; have hfn := hh.fn.cell 0; clear hh; go_simp⟩) ?_
  go_simp
  refine seqH_call rfl (by rfl) (fun K hK => ?_)
  have HKK := Lib.hid hK
  clear hK
  go_simp
  refine (HI.out _ HV0.out.2).mono ?_
  rintro r W2 ⟨rfl, hb2⟩
  have HV := Lib.hid (HV0.out.1.step hb2)
  clear hb2
  refine HKK.out _ _ ⟨_, HV.out⟩ ?_
  clear HKK K
  go_simp
  refine seqH_call rfl (by rfl) (fun K hK => ?_)
  have HKK := Lib.hid hK
  clear hK
  go_simp
  have HR := Lib.hid (box_new W2 9 #[.string wd, .string o.who, .string (str (Idf.dec o.time.toNat))])
  have HV := Lib.hid (HV.out.step ((Below.refl _ W2).alloc (Nat.le_refl _) (.cells #[.string wd, .string o.who, .string (str (Idf.dec o.time.toNat))] 9 (0, 0))))
  refine HKK.out _ _ ⟨_, HV.out⟩ ?_
  generalize W2.alloc (.cells #[.string wd, .string o.who, .string (str (Idf.dec o.time.toNat))] 9 (0, 0)) = W3 at *
  generalize W2.heap.size = bk at *
  clear HKK K
  go_simp
  refine seqH_call rfl (by rfl) (fun K hK => ?_)
  have HKK := Lib.hid hK
  clear hK
  go_simp
  refine (HLN.out bk W3 HV.out (row_cells (xs := [wd, o.who, str (Idf.dec o.time.toNat)]) HR.out) HR.out.lt).mono ?_
  rintro r W4 ⟨rfl, hv4⟩
  have HV := Lib.hid hv4
  clear hv4 HR
  refine HKK.out _ _ ⟨_, HV.out⟩ ?_
  clear HKK K
  go_simp
  refine seqH_done ?_
  have hf0 := HV.out.fn.cell 0
  go_wp2_with (go_at_call 46; refine (HNL.out _ HV.out).mono ?_; rintro r W5 ⟨rfl, hv5⟩)
  go_end0
  exact ⟨rfl, hv5⟩
end Go.Proofs.YtapjgdhdgpakhaaGreatDoor.Hj
