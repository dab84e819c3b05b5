/-
  Contracts of the program's Scan (package detect) and of the laws' awake: what the document fixes.
-/
import Derived.Test.YtpffolohkmokhaaDj
import Derived.Test.YtpffolohkmokhaaDl
import Derived.Test.YtpffolohkmokhaaDz
namespace Go.Proofs.Ytpffolohkmokhaa.Hd
open Go.RowKit Hs Hp
set_option linter.unusedVariables false

set_option maxRecDepth 100000 in
theorem scan_any (s : ByteArray) (w : World) (hs : s.size ≤ 10000) :
    Calls Try.prog 11 #[.string s] w fun e w' => e = .returned (.tuple #[.string ⟨(Sh.sum s.data.toList).toArray⟩, .bool (Dv.scan s.data.toList)]) ∧ Below w.heap.size w w' := by
  have HS := Lib.hid (fun W => sum_one s W (by omega))
  have HA := Lib.hid (fun g c W => anyMarked_any s g c W hs)
  generalize Dv.scan s.data.toList = b at *
  generalize (⟨(Sh.sum s.data.toList).toArray⟩ : ByteArray) = D at *
  go_enter Try.func11, Try.ntmps11
  go_wp2_with fail
  refine (HS.out w).mono ?_
  rintro e w1 ⟨rfl, hb1⟩
  go_wp2_with fail
  refine (differences_any _).mono ?_
  rintro e w2 ⟨g, rfl, h1, h2, hD, hb2⟩
  have hb12 := hb1.trans (hb2.mono hb1.size)
  go_wp2_with fail
  refine (HA.out g 21 _ hD h2).mono ?_
  rintro e w3 ⟨rfl, hb3⟩
  have HB := Lib.hid (hb12.trans (hb3.mono hb12.size))
  clear hb3 hb12 hb2 hb1 hD
  go_wp2
  go_ret2
  exact ⟨rfl, HB.out⟩

theorem vec16 : Dv.vecs.getD 16 (0, 0) = (2, 52) := rfl
theorem ok52 : sameWords (Dv.diff 2 52 0) [] = false := by rw [diff_nought]; rfl

set_option maxHeartbeats 2000000 in
set_option maxRecDepth 100000 in
theorem awake_any (w : World) : Calls Try.prog 6 #[] w fun e w' => e = .returned (.bool true) ∧ Below w.heap.size w w' := by
  have hz := zv30
  have HS := Lib.hid (fun W => scan_any ⟨#[97, 98, 99]⟩ W (by decide))
  rw [show (⟨#[97, 98, 99]⟩ : ByteArray).data.toList = [97, 98, 99] from rfl, scan_abc] at HS
  have HR := Lib.hid (fun W => rsum_any ⟨#[97, 98, 99]⟩ W (by decide))
  rw [show (⟨#[97, 98, 99]⟩ : ByteArray).data.toList = [97, 98, 99] from rfl] at HR
  generalize (⟨(Sh.sum [97, 98, 99]).toArray⟩ : ByteArray) = D at *
  have HD := Lib.hid (fun W => difference_any 2 52 0 W)
  have hne := neq_words (Dv.diff 2 52 0) []
  rw [ok52] at hne
  generalize Dv.diff 2 52 0 = M at *
  have HNE := Lib.hid hne
  have heq : (D.toList == D.toList) = true := by simp
  clear hne
  go_enter Try.func6, Try.ntmps6
  go_wp2_with fail
  refine (vectors_any _).mono ?_
  rintro e w1 ⟨g, cap, rfl, h1, h2, hv1, hb1⟩
  go_wp2_with fail
  refine (HS.out _).mono ?_
  rintro e w2 ⟨rfl, hb2⟩
  have hv2 := hv1.below hb2 h2
  have h22 : g < w2.heap.size := Nat.lt_of_lt_of_le h2 hb2.size
  have hb02 := hb1.trans (hb2.mono hb1.size)
  clear hv1 hb1 hb2 h2
  go_wp2_with fail
  refine (HD.out _).mono ?_
  rintro e w3 ⟨rfl, hb3⟩
  have hv3 := hv2.below hb3 h22
  have h23 : g < w3.heap.size := Nat.lt_of_lt_of_le h22 hb3.size
  have hb03 := hb02.trans (hb3.mono hb02.size)
  have HN := Lib.hid (heap_alloc_new w3 (.cells (ws []) 32))
  have hb04 : Below w.heap.size w ((w3.alloc (.cells (ws []) 32)).setRow w3.heap.size (ws M)) := below_setRow (hb03.alloc hb03.size _) hb03.size _
  have hbl : Below w3.heap.size w3 ((w3.alloc (.cells (ws []) 32)).setRow w3.heap.size (ws M)) := below_setRow ((Below.refl _ w3).alloc (Nat.le_refl _) _) (Nat.le_refl _) _
  have hv4 := (hv3.below hbl h23).load23 16 (by omega)
  rw [vec16] at hv4
  have hgs : w3.heap.size < ((w3.alloc (.cells (ws []) 32)).setRow w3.heap.size (ws M)).heap.size := by simp
  have HM := Lib.hid (setRow_heap _ _ _ (ws M) _ _ HN.out)
  have HB := Lib.hid hb04
  clear hv2 hv3 h22 h23 hb02 hb03 hb3 hb04 hbl HD HS
  generalize hw4 : (w3.alloc (.cells (ws []) 32)).setRow w3.heap.size (ws M) = w4 at *
  have hl4 : (loadVar 23 ⟨g, 48, none⟩).run Try.prog w4 = .ok (.agg (vs 2 52 0)) w4 := hv4
  have HL := Lib.hid hl4
  have HW4 := Lib.hid hw4
  clear hv4 hl4 hw4
  go_wp2_with (first
    | (with_reducible refine wpList_store_row rfl 32 (.tmp 4) (.tmp 11) rfl w3.heap.size (ws M) rfl rfl 32 _ HN.out (info30' _) (ws_sizes _ _) (Hp.ws_one _) ?_; rw [HW4.out])
    | (refine wpList_load_subW (by rfl) 23 (.tmp 17) (by rfl) g 48 (by rfl) (vs 2 52 0) HL.out ?_)
    | (refine wpList_eq_opW (by rfl) .eql (Or.inl rfl) 23 23 (.tmp 18) (.tmp 19) (by rfl) (vs 2 52 0) (vs 2 52 0) (by rfl) (by rfl) guard23 true (eql_vs23 _ _ _ _) ?_))
  refine (HR.out _).mono ?_
  rintro e w5 ⟨rfl, hb5⟩
  have HM5 := Lib.hid ((hb5.block _ hgs).trans HM.out)
  have HB5 := Lib.hid (HB.out.trans (hb5.mono HB.out.size))
  clear hb5 hgs
  go_wp2_with (first
    | (refine wpList_load_rowW (by rfl) 32 (.tmp 4) (by rfl) w3.heap.size (by rfl) 32 (ws M) (0, 0) _ HM5.out Try.underlying32 rfl (info30' _) ?_)
    | (refine wpList_build0W (by rfl) 32 (by rfl) (ws []) built32 ?_)
    | (refine wpList_eq_opW (by rfl) .neq (Or.inr rfl) 32 32 (.tmp 32) (.tmp 33) (by rfl) (ws M) (ws []) (by rfl) (by rfl) guard32 (!false) (HNE.out _) ?_))
  go_ret
  exact ⟨rfl, HB5.out⟩
end Go.Proofs.Ytpffolohkmokhaa.Hd
