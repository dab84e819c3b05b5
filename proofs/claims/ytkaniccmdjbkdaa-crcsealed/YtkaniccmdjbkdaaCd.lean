/-
  The contract of the program's Open (package crc).
-/
import Derived.Test.YtkaniccmdjbkdaaCc
import Derived.Test.YtkaniccmdjbkdaaHeld
namespace Go.Proofs.Ytkaniccmdjbkdaa.Hc
open Go.RowKit Hs
set_option linter.unusedVariables false
attribute [local go_sem] t_and t_or t_xor t_not t_add t_sub t_add_wrap t_sub_wrap

theorem bl_drop (s : ByteArray) (c : Nat) : bl (s.extract c s.size) = (bl s).drop c := by
  simp [bl, List.extract_eq_take_drop]
  exact List.take_of_length_le (by simp)
theorem slice_to (s : ByteArray) (n : Nat) (h : n ≤ s.size) (W : World) : (Instr.slice 9 (.string s) none (some (.int .i64 (n : Int))) none).run Try.prog W = .ok (.string (s.extract 0 n)) W := by
  have h := run_slice_string_h (P := Try.prog) (w := W) (t := 9) (s := s) Try.underlying9 .i64 (n : Int) (by omega) (by omega)
  rw [h, Int.toNat_natCast]
theorem slice_from (s : ByteArray) (n : Nat) (h : n ≤ s.size) (W : World) : (Instr.slice 9 (.string s) (some (.int .i64 (n : Int))) none none).run Try.prog W = .ok (.string (s.extract n s.size)) W := by
  have h := run_slice_string_l (P := Try.prog) (w := W) (t := 9) (s := s) Try.underlying9 .i64 (n : Int) (by omega) (by omega)
  rw [h, Int.toNat_natCast]

theorem open_short (s : ByteArray) (h : s.size < 4) : Ending.returned (.tuple #[.string ⟨#[]⟩, .int .i64 2]) = .returned (.tuple #[.string (str (Cr.openT (bl s))), .int .i64 (Cr.openC (bl s))]) := by
  rw [Cr.openT, Cr.openC, bl_length, if_pos h, if_pos h]; rfl
theorem open_bad (s : ByteArray) (n : Nat) (h : n + 4 = s.size) (hne : s.extract n s.size ≠ str (Cr.be4 (Cr.sum (bl (s.extract 0 n))))) : Ending.returned (.tuple #[.string ⟨#[]⟩, .int .i64 14]) = .returned (.tuple #[.string (str (Cr.openT (bl s))), .int .i64 (Cr.openC (bl s))]) := by
  have e : (bl s).length - 4 = n := by rw [bl_length]; omega
  have h2 : ¬ Cr.sealed ((bl s).take ((bl s).length - 4)) = bl s := fun hh => hne (by
    have := (Cr.tail_iff (bl s) (by rw [bl_length]; omega)).2 hh
    rw [e] at this
    apply bl_inj
    rw [bl_drop, this, bl_take, bl_str])
  have h4 : ¬ (bl s).length < 4 := by rw [bl_length]; omega
  rw [Cr.openT, Cr.openC, if_neg h4, if_neg h4, if_neg h2, if_neg h2]; rfl
theorem open_good (s : ByteArray) (n : Nat) (h : n + 4 = s.size) (he : s.extract n s.size = str (Cr.be4 (Cr.sum (bl (s.extract 0 n))))) : Ending.returned (.tuple #[.string (s.extract 0 n), .int .i64 0]) = .returned (.tuple #[.string (str (Cr.openT (bl s))), .int .i64 (Cr.openC (bl s))]) := by
  have e : (bl s).length - 4 = n := by rw [bl_length]; omega
  have h2 : Cr.sealed ((bl s).take ((bl s).length - 4)) = bl s := by
    refine (Cr.tail_iff (bl s) (by rw [bl_length]; omega)).1 ?_
    rw [e, ← bl_drop, he, bl_take, bl_str]
  have h3 : s.extract 0 n = str ((bl s).take n) := by apply bl_inj; rw [bl_take, bl_str]
  have h4 : ¬ (bl s).length < 4 := by rw [bl_length]; omega
  rw [Cr.openT, Cr.openC, if_neg h4, if_neg h4, if_pos h2, if_pos h2, e, h3]

set_option maxHeartbeats 1000000 in
set_option maxRecDepth 100000 in
theorem open_any (s : ByteArray) (w : World) (hs : s.size ≤ 100000) :
    Calls Try.prog 6 #[.string s] w fun e w' => e = .returned (.tuple #[.string (str (Cr.openT (bl s))), .int .i64 (Cr.openC (bl s))]) ∧ Below w.heap.size w w' := by
  by_cases h4 : s.size < 4
  · have h1 : (s.size : Int) < 4 := by omega
    have HE := Lib.hid (open_short s h4)
    clear h4
    go_enter Try.func6, Try.ntmps6
    go_wp2
    go_ret2
    exact ⟨HE.out, Below.refl _ _⟩
  · have h1 : ¬ (s.size : Int) < 4 := by omega
    obtain ⟨n, hn⟩ : ∃ n, n + 4 = s.size := ⟨s.size - 4, by omega⟩
    have hi : (s.size : Int) - 4 = n := by omega
    have hle : n ≤ s.size := by omega
    have ht := slice_to s n hle
    have hf := slice_from s n hle
    have HG := Lib.hid (open_good s n hn)
    have HBD := Lib.hid (open_bad s n hn)
    have hz : (s.extract 0 n).size ≤ 100000 := by rw [ByteArray.size_extract]; omega
    have hz2 : (s.extract n s.size).size ≤ 100000 := by rw [ByteArray.size_extract]; omega
    clear hn h4
    generalize s.extract 0 n = A at *
    generalize s.extract n s.size = T at *
    have HS := Lib.hid (fun (W : World) (g : Nat) (h : Strs W (g + 1) (some ⟨g, 0, none⟩) [A]) (hg : g < W.heap.size) => sum_strs1 (c := 1) h hg hz)
    generalize Cr.sum (bl A) = X at *
    have HW := Lib.hid (written_any X)
    generalize str (Cr.be4 X) = Y at *
    clear hz
    go_enter Try.func6, Try.ntmps6
    go_wp2_with fail
    refine wp_region_seq (fun W => Below w.heap.size w W) [(0, false, 0), (1, false, 1), (2, false, 3), (3, false, 7), (4, false, 15), (5, false, 31), (6, true, 63), (7, true, 127), (8, true, 255), (9, false, 511)]
      10 (by kernel_rfl) (by kernel_rfl) (by kernel_rfl) (fun d _ _ _ _ h => by cases d <;> exact h) (by kernel_rfl) (by kernel_rfl) (Below.refl _ w).drew ?_
    refine seqH_take (.string s) rfl (Or.inl ⟨by rfl, fun W _ => by go_simp⟩) ?_
    go_simp
    refine seqH_take (.int .i64 n) rfl (Or.inl ⟨by rfl, fun W _ => by go_simp⟩) ?_
    go_simp
    refine seqH_take (.string T) rfl (Or.inl ⟨by rfl, fun W _ => by go_simp⟩) ?_
    go_simp
    refine seqH_take (.string s) rfl (Or.inl ⟨by rfl, fun W _ => by go_simp⟩) ?_
    go_simp
    refine seqH_take (.int .i64 n) rfl (Or.inl ⟨by rfl, fun W _ => by go_simp⟩) ?_
    go_simp
    refine seqH_take (.string A) rfl (Or.inl ⟨by rfl, fun W _ => by go_simp⟩) ?_
    go_simp
    refine seqH_call rfl (by rfl) (fun K hK => ?_)
    go_simp
    have hst0 : Strs (w.alloc (.cells #[.string A] 9)).drew (w.heap.size + 1) (some ⟨w.heap.size, 0, none⟩) [A] := strs1 w A
    have hlt0 : w.heap.size < (w.alloc (.cells #[.string A] 9)).drew.heap.size := by simp
    have hb0 : Below w.heap.size w (w.alloc (.cells #[.string A] 9)).drew := ((Below.refl _ w).alloc (Nat.le_refl _) _).drew
    generalize (w.alloc (.cells #[.string A] 9)).drew = w0 at *
    have HST := Lib.hid hst0
    have HK := Lib.hid hK
    clear hK hst0
    refine HK.out _ _ hb0 ?_
    clear HK K
    refine seqH_call rfl (by rfl) (fun K hK => ?_)
    have HK := Lib.hid hK
    clear hK
    go_simp
    refine (HS.out _ _ HST.out hlt0).mono ?_
    rintro e w1 ⟨rfl, hb1⟩
    have hb01 := hb0.trans (hb1.mono hb0.size)
    clear hb1 hb0 hlt0 HST
    refine HK.out _ _ hb01 ?_
    clear HK K
    go_simp
    refine seqH_call rfl (by rfl) (fun K hK => ?_)
    have HK := Lib.hid hK
    clear hK
    go_simp
    refine (HW.out _).mono ?_
    rintro e w2 ⟨rfl, hb2⟩
    have hb02 := hb01.trans (hb2.mono hb01.size)
    clear hb2 hb01
    refine HK.out _ _ hb02 ?_
    clear HK K HS HW
    go_simp
    by_cases he : T = Y
    · have hq := str_beq he
      have HQ := Lib.hid (HG.out he)
      clear he HG HBD
      refine seqH_take (.bool false) rfl (Or.inl ⟨by rfl, fun W _ => by go_simp⟩) ?_
      go_simp
      refine seqH_done ?_
      go_wp2
      go_ret2
      exact ⟨HQ.out, hb02⟩
    · have hq := str_bne he
      have HQ := Lib.hid (HBD.out he)
      clear he HG HBD
      refine seqH_take (.bool true) rfl (Or.inl ⟨by rfl, fun W _ => by go_simp⟩) ?_
      go_simp
      refine seqH_done ?_
      go_wp2
      go_ret2
      exact ⟨HQ.out, hb02⟩
end Go.Proofs.Ytkaniccmdjbkdaa.Hc
