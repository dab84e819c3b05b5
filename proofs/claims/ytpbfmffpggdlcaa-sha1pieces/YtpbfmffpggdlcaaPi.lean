/-
  The statements' own awake (layer 2): true.
-/
import Derived.Test.YtpbfmffpggdlcaaPh
import Derived.Test.YtpbfmffpggdlcaaS
namespace Go.Proofs.Ytpbfmffpggdlcaa.Hp
open Go.RowKit Hs
set_option linter.unusedVariables false

theorem strs1 (w : World) (x : ByteArray) : Strs (w.alloc (.cells #[.string x] 9)) (w.heap.size + 1) (some ⟨w.heap.size, 0, none⟩) [x] := fun i hi => by
  have hh := heap_alloc_new w (.cells #[.string x] 9)
  refine ⟨_, rfl, by simp, ?_⟩
  rw [add_zero_of, cell_of_row _ _ i _ _ _ hh]
  simp at hi
  subst hi
  simp
theorem strs2 (w : World) (x y : ByteArray) : Strs (w.alloc (.cells #[.string x, .string y] 9)) (w.heap.size + 1) (some ⟨w.heap.size, 0, none⟩) [x, y] := fun i hi => by
  have hh := heap_alloc_new w (.cells #[.string x, .string y] 9)
  refine ⟨_, rfl, by simp, ?_⟩
  rw [add_zero_of, cell_of_row _ _ i _ _ _ hh]
  simp at hi
  rcases (by omega : i = 0 ∨ i = 1) with rfl | rfl <;> simp
/-- the digest of one text -/
theorem sum_one (s : ByteArray) (w : World) (hs : s.size ≤ 1000000) :
    Calls Try.prog 8 #[.slice (some ⟨w.heap.size, 0, none⟩) 1 1] (w.alloc (.cells #[.string s] 9)) fun e w' => e = .returned (.string ⟨(Sh.sum s.data.toList).toArray⟩) ∧ Below w.heap.size w w' := by
  have hf : (bls [s]).flatten = s.data.toList := by simp [bls, bl]
  have h := sum_any (w.alloc (.cells #[.string s] 9)) (some ⟨w.heap.size, 0, none⟩) 1 [s] (by have := strs1 w s; simpa using this) (by rw [hf]; simpa using hs) (by simp)
  rw [hf] at h
  refine h.mono ?_
  rintro e w' ⟨rfl, hb⟩
  exact ⟨rfl, ((Below.refl _ w).alloc (Nat.le_refl _) _).trans (hb.mono (by simp))⟩
theorem sum_abc : Sh.sum [97, 98, 99] = [169, 153, 62, 54, 71, 6, 129, 106, 186, 62, 37, 113, 120, 80, 194, 108, 156, 208, 216, 157] := by kernel_rfl
theorem digs_abc : M.digs (bl ⟨#[169, 153, 62, 54, 71, 6, 129, 106, 186, 62, 37, 113, 120, 80, 194, 108, 156, 208, 216, 157]⟩) = [97, 57, 57, 57, 51, 101, 51, 54, 52, 55, 48, 54, 56, 49, 54, 97, 98, 97, 51, 101, 50, 53, 55, 49, 55, 56, 53, 48, 99, 50, 54, 99, 57, 99, 100, 48, 100, 56, 57, 100] := by kernel_rfl
theorem words_abcd : (Sh.words [97, 98, 99, 100]).getD 0 0 = 1633837924 := by kernel_rfl

set_option maxRecDepth 100000 in
theorem awake_any (w : World) : Calls Try.prog 7 #[] w fun e w' => e = .returned (.bool true) ∧ Below w.heap.size w w' := by
  go_enter Try.func7, Try.ntmps7
  go_wp2_with fail
  refine (new_any _).mono ?_
  rintro e1 w1 ⟨b, rfl, hb, hst, hbl⟩
  have hlt := hst.lt
  have hbs := hbl.size
  have hw := write_any (w1.alloc (.cells #[.string ⟨#[97]⟩, .string ⟨#[98, 99]⟩] 9)) b [] (some ⟨w1.heap.size, 0, none⟩) _ 2 _ (hst.below ((Below.refl _ w1).alloc (Nat.le_refl _) _) hlt) (strs2 w1 ⟨#[97]⟩ ⟨#[98, 99]⟩)
    (fun _ ad e => by injection e with e; subst e; show w1.heap.size ≠ _; omega) (by decide) (by decide)
  have hfl : [] ++ (bls [⟨#[97]⟩, ⟨#[98, 99]⟩]).flatten = ([97, 98, 99] : List UInt8) := by decide
  rw [hfl] at hw
  go_wp2_with fail
  refine hw.mono ?_
  rintro e2 w2 ⟨rfl, hst2, hg2⟩
  have hb2 : Below w.heap.size w w2 := (hbl.alloc hbs _).grown hg2 (by simp; omega) (fun k hk => by injection hk with hk; omega)
  clear hw hst hbl hg2 hfl
  have hs2 := sum_one ⟨#[97, 98, 99]⟩ w2 (by decide)
  rw [show Sh.sum (ByteArray.mk #[97, 98, 99]).data.toList = _ from sum_abc] at hs2
  go_wp2_with fail
  refine hs2.mono ?_
  rintro e3 w3 ⟨rfl, hb3⟩
  have hd := rDigits_any ⟨#[169, 153, 62, 54, 71, 6, 129, 106, 186, 62, 37, 113, 120, 80, 194, 108, 156, 208, 216, 157]⟩ w3 (by decide)
  rw [digs_abc] at hd
  go_wp2_with fail
  refine hd.mono ?_
  rintro e4 w4 ⟨rfl, hb4⟩
  have hb34 : Below w2.heap.size w2 w4 := hb3.trans (hb4.mono hb3.size)
  have hst4 := hst2.below hb34 hst2.lt
  have hs4 := ssum_any w4 b _ hst4 (by decide)
  rw [sum_abc] at hs4
  unfold str
  go_wp2_with fail
  refine hs4.mono ?_
  rintro e5 w5 ⟨rfl, hb5⟩
  have hs5 := sum_one ⟨#[97, 98, 99]⟩ w5 (by decide)
  rw [show Sh.sum (ByteArray.mk #[97, 98, 99]).data.toList = _ from sum_abc] at hs5
  go_wp2_with fail
  refine hs5.mono ?_
  rintro e6 w6 ⟨rfl, hb6⟩
  go_wp2_with fail
  refine (first_any _).mono ?_
  rintro e7 w7 ⟨rfl, hb7⟩
  have hi7 : ∀ W, (Instr.index 28 (.agg (cs Sh.first)) (.int .i64 0)).run Try.prog W = .ok (.int .u32 1732584193) W := run_index_row (P := Try.prog) Try.underlying28 Try.isAgg26 Try.sizeOf26 (show 0 < 5 by omega) (by rw [cs_get Sh.first 0 (by omega), show tn (fld Sh.first 0) = 1732584193 from by kernel_rfl])
  go_wp2_with fail
  refine (expand_any ⟨#[97, 98, 99, 100]⟩ _ (by decide)).mono ?_
  rintro e8 w8 ⟨rfl, hb8⟩
  have hi8 : ∀ W, (Instr.index 30 (.agg (ws (Sh.words (ByteArray.mk #[97, 98, 99, 100]).data.toList))) (.int .i64 0)).run Try.prog W = .ok (.int .u32 1633837924) W := run_index_row (P := Try.prog) Try.underlying30 Try.isAgg26 Try.sizeOf26 (show 0 < 80 by omega)
    (by rw [ws_get _ 0 (by omega), show tn ((Sh.words (ByteArray.mk #[97, 98, 99, 100]).data.toList).getD 0 0) = 1633837924 from by kernel_rfl])
  generalize ws (Sh.words (ByteArray.mk #[97, 98, 99, 100]).data.toList) = WW at *
  go_wp2
  go_ret
  have s2 := hb2.size
  have s4 := hb34.size
  have s5 := hb5.size
  have s6 := hb6.size
  have s7 := hb7.size
  exact ⟨rfl, hb2.trans ((hb34.mono s2).trans ((hb5.mono (by omega)).trans ((hb6.mono (by omega)).trans ((hb7.mono (by omega)).trans (hb8.mono (by omega))))))⟩
end Go.Proofs.Ytpbfmffpggdlcaa.Hp
