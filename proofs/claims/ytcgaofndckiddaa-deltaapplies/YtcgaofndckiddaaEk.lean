/-
  Layer 9: the ways to make a delta (of texts shorter than a block), and the shortest one for the law's example.
-/
import Derived.Test.YtcgaofndckiddaaEj
import Derived.Deep.RegionHeld3
namespace Go.Proofs.Ytcgaofndckiddaa.He
open Go.RowKit Hg Hw
set_option linter.unusedVariables false

/-- a delta is answered -/
def Told (w : World) (l : List UInt8) (r : Ending) (w' : World) : Prop := ∃ A n c, n = l.length ∧ r = .returned (.slice A n c) ∧ Own w' w.heap.size (.slice A n c) l ∧ Below w.heap.size w w'
theorem st_end {w2 : World} {B b : Nat} {l : List UInt8} (h : St w2 B b l) : ∃ A n c, n = l.length ∧ w2.cell? ⟨b, 0, none⟩ = some (.slice A n c) ∧ Own w2 B (.slice A n c) l := by
  obtain ⟨A, c, hp⟩ := h
  exact ⟨A, _, c, rfl, hp.c0, hp.own⟩
theorem len4 (n : Nat) : (Df.num4 n).length = 4 := rfl
theorem lenT (p n : Nat) : (Df.takeF p n).length ≤ 9 := by unfold Df.takeF; split <;> simp [len4]
theorem lenS (t : List UInt8) : (Df.tellF t).length ≤ t.length + 5 := by unfold Df.tellF; split <;> simp [len4]; omega
theorem lenH (x y : List UInt8) : (Df.headF x y).length = 8 := by simp [Df.headF, len4]

set_option maxHeartbeats 2000000 in
set_option maxRecDepth 100000 in
theorem wholly_any (w : World) (x y : ByteArray) (hx : x.size ≤ 100000) (hy : y.size ≤ 100000) :
    Calls Try.prog 13 #[.string x, .string y] w (Told w (Df.whollyF (bl x) (bl y))) := by
  have HB := Lib.hid (begin_any w x y hx hy)
  have HT := Lib.hid (fun w3 b h => tell_any w3 w.heap.size b (Df.headF (bl x) (bl y)) h y hy (by rw [lenH]; omega))
  have HE := Lib.hid (show Df.headF (bl x) (bl y) ++ Df.tellF (bl y) = Df.whollyF (bl x) (bl y) from rfl)
  go_enter Try.func13, Try.ntmps13
  go_upto_region 2 with (go_at_call 18; refine HB.out.mono ?_; rintro r w1 ⟨⟨A, c, rfl, ho1⟩, hb1⟩)
  have hs := st_new (o := .cells #[.slice A 8 c] 37 (0, 0)) ho1 hb1 rfl
  have HS := Lib.hid (And.intro hs (hb1.alloc hb1.size (.cells #[.slice A 8 c] 37 (0, 0))))
  clear hs hb1 ho1
  go_upto_region 3 with (go_at_call 19; refine (HT.out _ _ HS.out.1).mono ?_; rintro r w2 ⟨rfl, hs2, hb2⟩)
  rw [HE.out] at hs2
  obtain ⟨A2, L, c2, hL, k2, ho2⟩ := st_end hs2
  have HP := Lib.hid (And.intro hL (And.intro ho2 (HS.out.2.trans hb2)))
  clear hL ho2 hs2 hb2
  go_wp2
  go_ret
  exact ⟨A2, L, c2, HP.out.1, rfl, HP.out.2⟩

set_option maxHeartbeats 4000000 in
set_option maxRecDepth 100000 in
theorem byEnds_any (w : World) (x y : ByteArray) (hx : x.size ≤ 100000) (hy : y.size ≤ 100000) :
    Calls Try.prog 14 #[.string x, .string y] w (Told w (Df.endsF (bl x) (bl y))) := by
  obtain ⟨h, hh⟩ : ∃ h, Df.ahead (bl x) (bl y) = h := ⟨_, rfl⟩
  have hle := Df.ahead_le (bl x) (bl y)
  rw [hh, bl_length, bl_length] at hle
  have hsx := slice_from x h h rfl hle.1
  have hsy := slice_from y h h rfl hle.2
  have hX := bl_drop x h
  have hY := bl_drop y h
  have hXs : (x.extract h x.size).size = x.size - h := by rw [ByteArray.size_extract]; omega
  have hYs : (y.extract h y.size).size = y.size - h := by rw [ByteArray.size_extract]; omega
  generalize x.extract h x.size = X at *
  generalize y.extract h y.size = Y at *
  obtain ⟨e, he⟩ : ∃ e, Df.behind (bl X) (bl Y) = e := ⟨_, rfl⟩
  have hle2 := Df.ahead_le (bl X).reverse (bl Y).reverse
  rw [show Df.ahead (bl X).reverse (bl Y).reverse = e from he, List.length_reverse, List.length_reverse, bl_length, bl_length] at hle2
  have hsm := slice_mid y h (y.size - e) h ((y.size : Int) - e) rfl (by omega) (by omega) (by omega)
  have hZ : bl (y.extract h (y.size - e)) = ((bl y).take (y.size - e)).drop h := bl_extract y h (y.size - e)
  have hZs : (y.extract h (y.size - e)).size ≤ y.size := by rw [ByteArray.size_extract]; omega
  generalize y.extract h (y.size - e) = Z at *
  have HE := Lib.hid (show Df.headF (bl x) (bl y) ++ Df.takeF 0 h ++ Df.tellF (bl Z) ++ Df.takeF (x.size - e) e = Df.endsF (bl x) (bl y) by
    unfold Df.endsF
    simp only [hh, ← hX, ← hY, he, hZ, bl_length])
  have HA := Lib.hid (fun w' => ahead_any x y w' hx hy)
  rw [hh] at HA
  have HB := Lib.hid (fun w' => behind_any X Y w' (by omega) (by omega))
  rw [he] at HB
  have HC := Lib.hid (fun w' => begin_any w' x y hx hy)
  obtain ⟨z, hz⟩ : ∃ z, x.size - e = z := ⟨_, rfl⟩
  rw [hz] at HE
  have wz : IntKind.i64.wrap ((x.size : Int) - e) = z := (IntWalk.i64_in _ (by omega)).trans (by omega)
  have wy : IntKind.i64.wrap ((y.size : Int) - e) = (y.size : Int) - e := IntWalk.i64_in _ (by omega)
  have HT1 := Lib.hid (fun W B b k => take_any W B b (Df.headF (bl x) (bl y)) k 0 h (by omega) (by omega) (by rw [lenH]; omega))
  have HT2 := Lib.hid (fun W B b k => tell_any W B b (Df.headF (bl x) (bl y) ++ Df.takeF 0 h) k Z (by omega) (by have := lenT 0 h; rw [List.length_append, lenH]; omega))
  have HT3 := Lib.hid (fun W B b k => take_any W B b (Df.headF (bl x) (bl y) ++ Df.takeF 0 h ++ Df.tellF (bl Z)) k z e (by omega) (by omega) (by have := lenT 0 h; have := lenS (bl Z); rw [bl_length] at this; rw [List.length_append, List.length_append, lenH]; omega))
  clear hh hX hY he hZ
  go_enter Try.func14, Try.ntmps14
  go_upto_region 2 with (go_at_call 20; refine (HA.out _).mono ?_; rintro r w1 ⟨rfl, hb1⟩)
  go_region_held3 (fun _ => True) (trivial) (first | (go_at_call 21; refine (HB.out _).mono ?_; rintro r w2 ⟨rfl, hb2⟩))
  have hb12 := hb1.drew.trans (hb2.mono hb1.size)
  have HB12 := Lib.hid hb12
  clear hb1 hb2 hb12 hsx hsy
  go_upto_region 4 with (go_at_call 18; refine (HC.out _).mono ?_; rintro r w3 ⟨⟨A, c, rfl, ho3⟩, hb3⟩)
  have hb13 := HB12.out.trans (hb3.mono HB12.out.size)
  have hs := st_new (o := .cells #[.slice A 8 c] 37 (0, 0)) (ho3.mono HB12.out.size) hb13 rfl
  have HS := Lib.hid (And.intro hs (hb13.alloc hb13.size (.cells #[.slice A 8 c] 37 (0, 0))))
  clear hs hb13 ho3 hb3
  go_upto_region 5 with (go_at_call 22; refine (HT1.out _ _ _ HS.out.1).mono ?_; rintro r w4 ⟨rfl, hs4, hb4⟩)
  have HS4 := Lib.hid (And.intro hs4 (HS.out.2.trans hb4))
  clear hs4 hb4
  go_upto_region 6 with (go_at_call 19; refine (HT2.out _ _ _ HS4.out.1).mono ?_; rintro r w5 ⟨rfl, hs5, hb5⟩)
  have HS5 := Lib.hid (And.intro hs5 (HS4.out.2.trans hb5))
  clear hs5 hb5 hsm
  go_upto_region 7 with (go_at_call 22; refine (HT3.out _ _ _ HS5.out.1).mono ?_; rintro r w6 ⟨rfl, hs6, hb6⟩)
  rw [HE.out] at hs6
  obtain ⟨A2, L, c2, hL, k2, ho2⟩ := st_end hs6
  have HP := Lib.hid (And.intro hL (And.intro ho2 (HS5.out.2.trans hb6)))
  clear hL ho2 hs6 hb6
  go_wp2
  go_ret
  exact ⟨A2, L, c2, HP.out.1, rfl, HP.out.2⟩
end Go.Proofs.Ytcgaofndckiddaa.He
