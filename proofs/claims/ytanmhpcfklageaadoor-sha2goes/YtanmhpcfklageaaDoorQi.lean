/-
  The statements' own awake (layer 3): true.
-/
import Derived.Test.YtanmhpcfklageaaDoorQh
import Derived.Test.YtanmhpcfklageaaDoorS
namespace Go.Proofs.YtanmhpcfklageaaDoor.Ho
open Go.RowKit Hs
set_option linter.unusedVariables false

theorem strs1 (w : World) (x : ByteArray) : Strs (w.alloc (.cells #[.string x] 9)) (w.heap.size + 1) (some ⟨w.heap.size, 0, none⟩) [x] := fun i hi => by
  have hh := heap_alloc_new w (.cells #[.string x] 9)
  refine ⟨_, rfl, by simp, ?_⟩
  rw [add_zero_of, cell_of_row _ _ i _ _ _ hh]
  simp at hi
  subst hi
  simp
theorem strs2 (w : World) (x y : ByteArray) : Strs (w.alloc (.cells #[.string x, .string y] 9)) (w.heap.size + 1) (some ⟨w.heap.size, 0, none⟩) [x, y] := fun i hi => by
  have hh := heap_alloc_new w (.cells #[.string x, .string y] 9)
  refine ⟨_, rfl, by simp, ?_⟩
  rw [add_zero_of, cell_of_row _ _ i _ _ _ hh]
  simp at hi
  rcases (by omega : i = 0 ∨ i = 1) with rfl | rfl <;> simp
/-- the digest of one text -/
theorem sum_one (s : ByteArray) (w : World) (hK : Ks w) (hs : s.size ≤ 1000000) :
    Calls Tryd.prog 7 #[.slice (some ⟨w.heap.size, 0, none⟩) 1 1] (w.alloc (.cells #[.string s] 9)) fun e w' => e = .returned (.string ⟨(S2.sum s.data.toList).toArray⟩) ∧ Below w.heap.size w w' := by
  have hf : (bls [s]).flatten = s.data.toList := by simp [bls, bl]
  have h := sum_any (w.alloc (.cells #[.string s] 9)) (hK.alloc _) (some ⟨w.heap.size, 0, none⟩) 1 [s] (by have := strs1 w s; simpa using this) (by rw [hf]; simpa using hs) (by simp)
  rw [hf] at h
  refine h.mono ?_
  rintro e w' ⟨rfl, hb⟩
  exact ⟨rfl, ((Below.refl _ w).alloc (Nat.le_refl _) _).trans (hb.mono (by simp))⟩
theorem digs_abc : M.digs (bl ⟨#[186, 120, 22, 191, 143, 1, 207, 234, 65, 65, 64, 222, 93, 174, 34, 35, 176, 3, 97, 163, 150, 23, 122, 156, 180, 16, 255, 97, 242, 0, 21, 173]⟩) = [98, 97, 55, 56, 49, 54, 98, 102, 56, 102, 48, 49, 99, 102, 101, 97, 52, 49, 52, 49, 52, 48, 100, 101, 53, 100, 97, 101, 50, 50, 50, 51, 98, 48, 48, 51, 54, 49, 97, 51, 57, 54, 49, 55, 55, 97, 57, 99, 98, 52, 49, 48, 102, 102, 54, 49, 102, 50, 48, 48, 49, 53, 97, 100] := by kernel_rfl

set_option maxRecDepth 100000 in
theorem awake_any (w : World) (hK : Ks w) : Calls Tryd.prog 6 #[] w fun e w' => e = .returned (.bool true) ∧ Below w.heap.size w w' := by
  have HK := Lib.hid hK
  clear hK
  go_enter Tryd.func6, Tryd.ntmps6
  go_wp2_with fail
  refine (new_any _ HK.out).mono ?_
  rintro e1 w1 ⟨b, rfl, hb, hst, hbl⟩
  have hlt := hst.lt
  have hbs := hbl.size
  have hw := write_any (w1.alloc (.cells #[.string ⟨#[97]⟩, .string ⟨#[98, 99]⟩] 9)) b [] (some ⟨w1.heap.size, 0, none⟩) _ 2 _ (hst.below ((Below.refl _ w1).alloc (Nat.le_refl _) _) hlt) (strs2 w1 ⟨#[97]⟩ ⟨#[98, 99]⟩)
    (fun _ ad e => by injection e with e; subst e; show w1.heap.size ≠ _; omega) (by decide) (by decide)
  have hfl : [] ++ (bls [⟨#[97]⟩, ⟨#[98, 99]⟩]).flatten = ([97, 98, 99] : List UInt8) := by decide
  rw [hfl] at hw
  go_wp2_with fail
  refine hw.mono ?_
  rintro e2 w2 ⟨rfl, hst2, hg2⟩
  have hb2 : Below w.heap.size w w2 := (hbl.alloc hbs _).grown hg2 (by simp; omega) (fun k hk => by injection hk with hk; omega)
  clear hw hst hbl hg2 hfl
  have hs2 := sum_one ⟨#[97, 98, 99]⟩ w2 (HK.out.under hb2) (by decide)
  rw [show S2.sum (ByteArray.mk #[97, 98, 99]).data.toList = _ from sum2_abc] at hs2
  go_wp2_with fail
  refine hs2.mono ?_
  rintro e3 w3 ⟨rfl, hb3⟩
  have hd := rDigits_any ⟨#[186, 120, 22, 191, 143, 1, 207, 234, 65, 65, 64, 222, 93, 174, 34, 35, 176, 3, 97, 163, 150, 23, 122, 156, 180, 16, 255, 97, 242, 0, 21, 173]⟩ w3 (by decide)
  rw [digs_abc] at hd
  go_wp2_with fail
  refine hd.mono ?_
  rintro e4 w4 ⟨rfl, hb4⟩
  have hb34 : Below w2.heap.size w2 w4 := hb3.trans (hb4.mono hb3.size)
  have hst4 := hst2.below hb34 hst2.lt
  have hs4 := ssum_any w4 b _ hst4 (by decide)
  rw [sum2_abc] at hs4
  unfold str
  go_wp2_with fail
  refine hs4.mono ?_
  rintro e5 w5 ⟨rfl, hb5⟩
  have hs5 := sum_one ⟨#[97, 98, 99]⟩ w5 (hst4.ks.under hb5) (by decide)
  rw [show S2.sum (ByteArray.mk #[97, 98, 99]).data.toList = _ from sum2_abc] at hs5
  go_wp2_with fail
  refine hs5.mono ?_
  rintro e6 w6 ⟨rfl, hb6⟩
  go_wp2
  go_ret
  have s2 := hb2.size
  have s4 := hb34.size
  have s5 := hb5.size
  have s6 := hb6.size
  exact ⟨rfl, hb2.trans ((hb34.mono s2).trans ((hb5.mono (by omega)).trans (hb6.mono (by omega))))⟩
end Go.Proofs.YtanmhpcfklageaaDoor.Ho
