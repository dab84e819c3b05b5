/-
  The contract of the document's Open (layer 8).
-/
import Derived.Test.YtlpidedijknohaaGb
import Derived.Deep.DeepCutAuto
import Derived.Deep.CutBlock
import Derived.BigQuiet
namespace Go.Proofs.Ytlpidedijknohaa.Hg
open Go.RowKit
set_option linter.unusedVariables false

/-- what Open answers -/
def ans (r : List UInt8 × Int) : Value := .tuple #[.string (str r.1), .int .i64 r.2]
theorem ans_mk {r : List UInt8 × Int} {l : List UInt8} {c : Int} (h : r = (l, c)) : Ending.returned (.tuple #[.string (str l), .int .i64 c]) = .returned (ans r) := by rw [h]; rfl
theorem ans_no {r : List UInt8 × Int} {c : Int} (h : r = ([], c)) : Ending.returned (.tuple #[.string ⟨#[]⟩, .int .i64 c]) = .returned (ans r) := by rw [h]; rfl
theorem getD_at (s : ByteArray) (k j : Nat) (h : k + j < s.size) : ((bl s).drop k).getD j 0 = s[k + j] := by rw [Sq.drop_getD, bl_getD s _ h]
theorem bl_drop (s : ByteArray) (c : Nat) : bl (s.extract c s.size) = (bl s).drop c := by
  simp [bl, List.extract_eq_take_drop]
  exact List.take_of_length_le (by simp)
theorem bl_extract (s : ByteArray) (a b : Nat) : bl (s.extract a b) = ((bl s).take b).drop a := by
  simp [bl, List.extract_eq_take_drop, List.drop_take]
theorem bl_mid (s : ByteArray) (a n : Nat) : bl (s.extract a (a + n)) = ((bl s).drop a).take n := by
  rw [bl_extract, List.drop_take]
  congr 1
  omega
theorem openF_one (s : ByteArray) (M : Nat) (h : 0 < s.size) (h1 : (s[0]'h).toNat = 1) : Sq.openF (bl s) M = Sq.goF M [] ((bl s).drop 1) := by
  have h0 : (bl s).getD 0 0 = s[0] := bl_getD s 0 h
  match e : bl s with
  | [] => have := bl_length s; rw [e] at this; simp at this; omega
  | c :: r =>
    rw [e] at h0
    simp at h0
    subst h0
    simp [Sq.openF, h1]
theorem openF_nought (s : ByteArray) (M : Nat) (h : 0 < s.size) (h1 : (s[0]'h).toNat = 0) : Sq.openF (bl s) M = if M < s.size - 1 then ([], 9) else ((bl s).drop 1, 0) := by
  have h0 : (bl s).getD 0 0 = s[0] := bl_getD s 0 h
  have hl := bl_length s
  match e : bl s with
  | [] => rw [e] at hl; simp at hl; omega
  | c :: r =>
    rw [e] at h0 hl
    simp at h0 hl
    subst h0
    have : s.size - 1 = r.length := by omega
    simp [Sq.openF, h1, this]
theorem openF_form (s : ByteArray) (M : Nat) (h : 0 < s.size) (h1 : 1 < (s[0]'h).toNat) : Sq.openF (bl s) M = ([], 3) := by
  have h0 : (bl s).getD 0 0 = s[0] := bl_getD s 0 h
  match e : bl s with
  | [] => have := bl_length s; rw [e] at this; simp at this; omega
  | c :: r =>
    rw [e] at h0
    simp at h0
    subst h0
    simp [Sq.openF, show ¬ (s[0].toNat = 0) by omega, show ¬ (s[0].toNat = 1) by omega]
theorem openF_short (s : ByteArray) (M : Nat) (h : s.size = 0) : Sq.openF (bl s) M = ([], 2) := by
  have hl := bl_length s
  rw [h] at hl
  rw [List.eq_nil_of_length_eq_zero hl]; rfl

theorem slice_mid (s : ByteArray) (a b : Nat) (x y : Int) (hx : x = a) (hy : y = b) (h1 : a ≤ b) (h : b ≤ s.size) (W : World) : (Instr.slice 9 (.string s) (some (.int .i64 x)) (some (.int .i64 y)) none).run Try.prog W = .ok (.string (s.extract a b)) W := by
  subst hx hy
  have h := run_slice_string (P := Try.prog) (w := W) 9 s .i64 .i64 (a : Int) (b : Int) Try.underlying9 (by omega) (by omega) (by omega)
  rw [h, Int.toNat_natCast, Int.toNat_natCast]
theorem slice_from (s : ByteArray) (n : Nat) (x : Int) (hx : x = n) (h : n ≤ s.size) (W : World) : (Instr.slice 9 (.string s) (some (.int .i64 x)) none none).run Try.prog W = .ok (.string (s.extract n s.size)) W := by
  subst hx
  have h := run_slice_string_l (P := Try.prog) (w := W) (t := 9) (s := s) Try.underlying9 .i64 (n : Int) (by omega) (by omega)
  rw [h, Int.toNat_natCast]
theorem slice_to (s : ByteArray) (n : Nat) (x : Int) (hx : x = n) (h : n ≤ s.size) (W : World) : (Instr.slice 9 (.string s) none (some (.int .i64 x)) none).run Try.prog W = .ok (.string (s.extract 0 n)) W := by
  subst hx
  have h := run_slice_string_h (P := Try.prog) (w := W) (t := 9) (s := s) Try.underlying9 .i64 (n : Int) (by omega) (by omega)
  rw [h, Int.toNat_natCast]

/-- a text as the document's loop has told it -/
structure Mid (w wr : World) (s : ByteArray) (M k : Nat) (v : Value) (t : List UInt8) : Prop where
  k1 : 1 ≤ k
  k2 : k ≤ s.size
  own : Own wr w.heap.size v t
  below : Below w.heap.size w wr
  small : t.length ≤ 131 * k
  goes : Sq.goF M [] ((bl s).drop 1) = Sq.goF M t ((bl s).drop k)

end Go.Proofs.Ytlpidedijknohaa.Hg
