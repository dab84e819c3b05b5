/-
  Contracts of the package hexa's small functions: what one call returns, and that the world stays.
-/
import Derived.Test.YtlpidedijknohaaRows
import Derived.Test.YtlpidedijknohaaM
import Derived.WalkKit
import Derived.ProofKit
import Derived.Below
import Derived.Lib.Hide
import Derived.Deep.OwnRows
import Derived.Laws.BytesArg
import Derived.Deep.LoopGhost
namespace Go.Proofs.Ytlpidedijknohaa
open Go.RowKit

theorem Try.info5 : (Try.prog.info? 5).map (fun i => (i.zero, i.size, i.bytes)) = some (some (.int .u8 0), 1, 1) := by kernel_rfl

/-- the bytes of a string -/
def bl (s : ByteArray) : List UInt8 := s.data.toList
theorem bl_length (s : ByteArray) : (bl s).length = s.size := by simp [bl]
theorem bl_getD (s : ByteArray) (k : Nat) (h : k < s.size) : (bl s).getD k 0 = s[k] := by
  unfold bl
  rw [List.getD_eq_getElem?_getD, List.getElem?_eq_getElem (by simpa using h)]
  rfl
def str (l : List UInt8) : ByteArray := ⟨l.toArray⟩
theorem bl_str (l : List UInt8) : bl (str l) = l := by simp [bl, str]
theorem str_bl (s : ByteArray) : str (bl s) = s := by simp [bl, str]
theorem str_size (l : List UInt8) : (str l).size = l.length := by simp [str, ByteArray.size]

theorem ret_int {k : IntKind} {a b : Int} (h : a = b) : Ending.returned (.int k a) = .returned (.int k b) := by rw [h]

theorem ret_str {a b : ByteArray} (h : a = b) : Ending.returned (.string a) = .returned (.string b) := by rw [h]

theorem table_get (n : Nat) (h : n < 16) : (({ data := #[48, 49, 50, 51, 52, 53, 54, 55, 56, 57, 97, 98, 99, 100, 101, 102] } : ByteArray)[n]'h) = M.hexc n := by
  have : ∀ n : Fin 16, (({ data := #[48, 49, 50, 51, 52, 53, 54, 55, 56, 57, 97, 98, 99, 100, 101, 102] } : ByteArray)[n.1]'n.2) = M.hexc n.1 := by decide
  exact this ⟨n, h⟩

theorem ret_worth {a b : Int} {x y : Bool} (h : a = b) (k : x = y) : Ending.returned (.tuple #[.int .u8 a, .bool x]) = .returned (.tuple #[.int .u8 b, .bool y]) := by rw [h, k]
theorem worth_d {c : UInt8} (h1 : 48 ≤ (c.toNat : Int)) (h2 : (c.toNat : Int) ≤ 57) : (c.toNat : Int) - 48 = (M.worthV c : Int) ∧ true = M.worthB c := by
  refine ⟨by unfold M.worthV; rw [if_pos (by omega)]; omega, by simp [M.worthB]; omega⟩
theorem worth_a {c : UInt8} (h1 : 97 ≤ (c.toNat : Int)) (h2 : (c.toNat : Int) ≤ 102) : (c.toNat : Int) - 97 + 10 = (M.worthV c : Int) ∧ true = M.worthB c := by
  refine ⟨by unfold M.worthV; rw [if_neg (by omega), if_pos (by omega)]; omega, by simp [M.worthB]; omega⟩
theorem worth_n {c : UInt8} (h1 : ¬ (48 ≤ c.toNat ∧ c.toNat ≤ 57)) (h2 : ¬ (97 ≤ c.toNat ∧ c.toNat ≤ 102)) : (0 : Int) = (M.worthV c : Int) ∧ false = M.worthB c := by
  refine ⟨by unfold M.worthV; rw [if_neg h1, if_neg h2]; rfl, ?_⟩
  simp only [M.worthB, false_eq_decide_iff]; omega

theorem row_string (w : World) (n : Nat) (f : Nat → UInt8) (g : Nat) (h : w.rowIs g 5 n (fun j => .int .u8 (f j).toNat)) (cap : Nat) :
    (convert 37 9 (.slice (some ⟨g, 0, none⟩) n cap)).run Try.prog w = .ok (.string (str ((List.range n).map f))) w := by
  rw [run_convert_bytes_arg w 37 5 Try.underlying37 Try.underlying5 g 0 n cap ((List.range n).map fun j => ((f j).toNat : Int)) (by simp) (fun i hi => by
    have := h.cell hi
    simp only [Nat.zero_add]
    rw [this]
    simp [List.getD, hi]) 9 Try.underlying9]
  simp [strOfNums, str, Function.comp_def]

theorem make_bytes (n : Nat) (hn : n ≤ 1000000) (x : Int) (hx : x = n) (w : World) :
    (Instr.makeSlice 37 (.int .i64 x) (.int .i64 x)).run Try.prog w = .ok (.slice (some ⟨w.heap.size, 0, none⟩) n n) (w.alloc (.cells (madeCells #[.int .u8 0] n) 5)) := by
  subst hx
  exact run_make_row' (P := Try.prog) 37 5 (.int .u8 0) 1 Try.underlying37 Try.info5 rfl .i64 .i64 n (by omega) (by omega) w

/-- k bytes are filled in -/
def fill (f : Nat → UInt8) (k : Nat) : Nat → Value := fun j => .int .u8 (if j < k then f j else 0).toNat
theorem fill_start (w : World) (f : Nat → UInt8) (n : Nat) : (w.alloc (.cells (madeCells #[.int .u8 0] n) 5)).rowIs w.heap.size 5 n (fill f 0) :=
  (World.rowIs_made w _ n 5).congr fun j _ => by simp [fill]
theorem fill_set {w : World} {f : Nat → UInt8} {g n k : Nat} (h : w.rowIs g 5 n (fill f k)) {x : Int} (hx : x = (f k).toNat) : (w.setCell ⟨g, k, none⟩ (.int .u8 x)).rowIs g 5 n (fill f (k + 1)) := by
  subst hx
  refine (h.set k _).congr fun j _ => ?_
  simp only [fill]
  by_cases e : j = k
  · subst e; simp
  · rw [if_neg e]
    by_cases hlt : j < k
    · rw [if_pos hlt, if_pos (by omega)]
    · rw [if_neg hlt, if_neg (by omega)]
theorem fill_done {w : World} {f : Nat → UInt8} {g n : Nat} (h : w.rowIs g 5 n (fill f n)) : w.rowIs g 5 n (fun j => .int .u8 (f j).toNat) :=
  h.congr fun j hj => by simp [fill, hj]

theorem or_byte {a b : Nat} (ha : a < 16) (hb : b < 16) : bits .or .u8 ((a : Int) * 16) (b : Int) = (a : Int) * 16 + b := by
  have h : ∀ a b : Fin 16, bits .or .u8 ((a.1 : Int) * 16) (b.1 : Int) = (a.1 : Int) * 16 + b.1 := by decide +kernel
  exact h ⟨a, ha⟩ ⟨b, hb⟩

theorem ret_bytes {a b : ByteArray} {x y : Int} (h : a = b) (k : x = y) : Ending.returned (.tuple #[.string a, .int .i64 x]) = .returned (.tuple #[.string b, .int .i64 y]) := by rw [h, k]

end Go.Proofs.Ytlpidedijknohaa
