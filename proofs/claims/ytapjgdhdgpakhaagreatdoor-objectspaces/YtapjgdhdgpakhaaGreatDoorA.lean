/-
  Contracts of the package hexa's small functions: what one call returns, and that the world stays.
-/
import Derived.Test.YtapjgdhdgpakhaaGreatDoorRows
import Derived.Test.YtapjgdhdgpakhaaGreatDoorM
import Derived.WalkKit
import Derived.ProofKit
import Derived.Below
import Derived.Lib.Hide
import Derived.Deep.OwnRows
import Derived.Laws.BytesArg
import Derived.Deep.LoopGhost
namespace Go.Proofs.YtapjgdhdgpakhaaGreatDoor
open Go.RowKit

theorem Tryz.info5 : (Tryz.prog.info? 5).map (fun i => (i.zero, i.size, i.bytes)) = some (some (.int .u8 0), 1, 1) := by kernel_rfl

/-- the bytes of a string -/
def bl (s : ByteArray) : List UInt8 := s.data.toList
theorem bl_length (s : ByteArray) : (bl s).length = s.size := by simp [bl]
theorem bl_getD (s : ByteArray) (k : Nat) (h : k < s.size) : (bl s).getD k 0 = s[k] := by
  unfold bl
  rw [List.getD_eq_getElem?_getD, List.getElem?_eq_getElem (by simpa using h)]
  rfl
def str (l : List UInt8) : ByteArray := ⟨l.toArray⟩
theorem bl_str (l : List UInt8) : bl (str l) = l := by simp [bl, str]
theorem str_bl (s : ByteArray) : str (bl s) = s := by simp [bl, str]
theorem str_size (l : List UInt8) : (str l).size = l.length := by simp [str, ByteArray.size]

theorem ret_int {k : IntKind} {a b : Int} (h : a = b) : Ending.returned (.int k a) = .returned (.int k b) := by rw [h]

theorem ret_str {a b : ByteArray} (h : a = b) : Ending.returned (.string a) = .returned (.string b) := by rw [h]

theorem table_get (n : Nat) (h : n < 16) : (({ data := #[48, 49, 50, 51, 52, 53, 54, 55, 56, 57, 97, 98, 99, 100, 101, 102] } : ByteArray)[n]'h) = M.hexc n := by
  have : ∀ n : Fin 16, (({ data := #[48, 49, 50, 51, 52, 53, 54, 55, 56, 57, 97, 98, 99, 100, 101, 102] } : ByteArray)[n.1]'n.2) = M.hexc n.1 := by decide
  exact this ⟨n, h⟩

set_option maxHeartbeats 400000 in
theorem digit_any (b : ByteArray) (k : Nat) (w : World) (hs : b.size ≤ 100000) (h1 : k < 2 * b.size) :
    Calls Tryz.prog 81 #[.string b, .int .i64 k] w fun e w' => e = .returned (.int .u8 (M.dig (bl b) k).toNat) ∧ w = w' := by
  have hk : k / 2 < b.size := by omega
  have hk2 : (k : Int) / 2 < b.size := by omega
  have hk3 : b[k / 2].toNat < 256 := b[k / 2].toNat_lt
  by_cases h : k % 2 = 0
  · have hb : ((k : Int) % 2 == 0) = true := by simp; omega
    have H := Lib.hid h
    clear h
    go_enter Tryz.func81, Tryz.ntmps81
    go_wp2
    go_ret
    exact ⟨ret_int (by rw [table_get _ (by omega), M.dig, if_pos H.out, bl_getD b _ hk]), rfl⟩
  · have hb : ((k : Int) % 2 == 0) = false := by simp; omega
    have H := Lib.hid h
    clear h
    go_enter Tryz.func81, Tryz.ntmps81
    go_wp2
    go_ret
    exact ⟨ret_int (by rw [table_get _ (by omega), M.dig, if_neg H.out, bl_getD b _ hk]), rfl⟩

theorem ret_worth {a b : Int} {x y : Bool} (h : a = b) (k : x = y) : Ending.returned (.tuple #[.int .u8 a, .bool x]) = .returned (.tuple #[.int .u8 b, .bool y]) := by rw [h, k]
theorem worth_d {c : UInt8} (h1 : 48 ≤ (c.toNat : Int)) (h2 : (c.toNat : Int) ≤ 57) : (c.toNat : Int) - 48 = (M.worthV c : Int) ∧ true = M.worthB c := by
  refine ⟨by unfold M.worthV; rw [if_pos (by omega)]; omega, by simp [M.worthB]; omega⟩
theorem worth_a {c : UInt8} (h1 : 97 ≤ (c.toNat : Int)) (h2 : (c.toNat : Int) ≤ 102) : (c.toNat : Int) - 97 + 10 = (M.worthV c : Int) ∧ true = M.worthB c := by
  refine ⟨by unfold M.worthV; rw [if_neg (by omega), if_pos (by omega)]; omega, by simp [M.worthB]; omega⟩
theorem worth_n {c : UInt8} (h1 : ¬ (48 ≤ c.toNat ∧ c.toNat ≤ 57)) (h2 : ¬ (97 ≤ c.toNat ∧ c.toNat ≤ 102)) : (0 : Int) = (M.worthV c : Int) ∧ false = M.worthB c := by
  refine ⟨by unfold M.worthV; rw [if_neg h1, if_neg h2]; rfl, ?_⟩
  simp only [M.worthB, false_eq_decide_iff]; omega

set_option maxHeartbeats 400000 in
theorem worth_any (c : UInt8) (w : World) :
    Calls Tryz.prog 85 #[.int .u8 c.toNat] w fun e w' => e = .returned (.tuple #[.int .u8 (M.worthV c), .bool (M.worthB c)]) ∧ w = w' := by
  go_enter Tryz.func85, Tryz.ntmps85
  go_wp2
  all_goals go_ret2
  all_goals refine ⟨?_, rfl⟩
  all_goals first
    | exact ret_worth (worth_d ‹_› ‹_›).1 (worth_d ‹_› ‹_›).2
    | exact ret_worth (worth_a ‹_› ‹_›).1 (worth_a ‹_› ‹_›).2
    | exact ret_worth (worth_n (by omega) (by omega)).1 (worth_n (by omega) (by omega)).2

theorem row_string (w : World) (n : Nat) (f : Nat → UInt8) (g : Nat) (h : w.rowIs g 5 n (fun j => .int .u8 (f j).toNat)) (cap : Nat) :
    (convert 65 9 (.slice (some ⟨g, 0, none⟩) n cap)).run Tryz.prog w = .ok (.string (str ((List.range n).map f))) w := by
  rw [run_convert_bytes_arg w 65 5 Tryz.underlying65 Tryz.underlying5 g 0 n cap ((List.range n).map fun j => ((f j).toNat : Int)) (by simp) (fun i hi => by
    have := h.cell hi
    simp only [Nat.zero_add]
    rw [this]
    simp [List.getD, hi]) 9 Tryz.underlying9]
  simp [strOfNums, str, Function.comp_def]

theorem make_bytes (n : Nat) (hn : n ≤ 1000000) (x : Int) (hx : x = n) (w : World) :
    (Instr.makeSlice 65 (.int .i64 x) (.int .i64 x)).run Tryz.prog w = .ok (.slice (some ⟨w.heap.size, 0, none⟩) n n) (w.alloc (.cells (madeCells #[.int .u8 0] n) 5)) := by
  subst hx
  exact run_make_row' (P := Tryz.prog) 65 5 (.int .u8 0) 1 Tryz.underlying65 Tryz.info5 rfl .i64 .i64 n (by omega) (by omega) w

/-- k bytes are filled in -/
def fill (f : Nat → UInt8) (k : Nat) : Nat → Value := fun j => .int .u8 (if j < k then f j else 0).toNat
theorem fill_start (w : World) (f : Nat → UInt8) (n : Nat) : (w.alloc (.cells (madeCells #[.int .u8 0] n) 5)).rowIs w.heap.size 5 n (fill f 0) :=
  (World.rowIs_made w _ n 5).congr fun j _ => by simp [fill]
theorem fill_set {w : World} {f : Nat → UInt8} {g n k : Nat} (h : w.rowIs g 5 n (fill f k)) {x : Int} (hx : x = (f k).toNat) : (w.setCell ⟨g, k, none⟩ (.int .u8 x)).rowIs g 5 n (fill f (k + 1)) := by
  subst hx
  refine (h.set k _).congr fun j _ => ?_
  simp only [fill]
  by_cases e : j = k
  · subst e; simp
  · rw [if_neg e]
    by_cases hlt : j < k
    · rw [if_pos hlt, if_pos (by omega)]
    · rw [if_neg hlt, if_neg (by omega)]
theorem fill_done {w : World} {f : Nat → UInt8} {g n : Nat} (h : w.rowIs g 5 n (fill f n)) : w.rowIs g 5 n (fun j => .int .u8 (f j).toNat) :=
  h.congr fun j hj => by simp [fill, hj]

set_option maxHeartbeats 400000 in
theorem Digits_any (b : ByteArray) (w : World) (hs : b.size ≤ 100000) :
    Calls Tryz.prog 52 #[.string b] w fun e w' => e = .returned (.string (str (M.digs (bl b)))) ∧ Below w.heap.size w w' := by
  have hmk := make_bytes (2 * b.size) (by omega) (2 * (b.size : Int)) (by omega)
  go_enter Tryz.func52, Tryz.ntmps52
  go_wp2
  clear hmk
  go_loopg [11] (2 * b.size) (fun g i wr => ∃ k : Nat, k ≤ 2 * b.size ∧ g = 2 * b.size - k ∧ i = .int .i64 k ∧ wr.rowIs w.heap.size 5 (2 * b.size) (fill (M.dig (bl b)) k) ∧ Below w.heap.size w wr)
  case atStart => exact ⟨0, Nat.zero_le _, rfl, rfl, fill_start w _ _, (Below.refl _ _).alloc (Nat.le_refl _) _⟩
  case round =>
    obtain ⟨k, hk, rfl, rfl, hrow, hbl⟩ := hrel
    by_cases hlt : k < 2 * b.size
    · have h1 : (k : Int) < 2 * b.size := by omega
      have hc := hrow.cell hlt
      have hf := hrow.frozen k
      go_wp2_with (go_at_call 81; refine (digit_any _ _ _ hs hlt).mono ?_; rintro e w' ⟨rfl, rfl⟩)
      go_roundg (2 * b.size - (k + 1))
      case rel => exact ⟨k + 1, by omega, rfl, by go_num, fill_set hrow rfl, hbl.setCell (Nat.le_refl _) _⟩
      case measure => omega
    · have h1 : ¬ (k : Int) < 2 * b.size := by omega
      obtain rfl : k = 2 * b.size := by omega
      have hconv := row_string wr _ _ _ (fill_done hrow) (2 * b.size)
      go_wp2
      go_ret
      exact ⟨ret_str (by rw [M.digs_eq_map, bl_length]), hbl⟩

theorem or_byte {a b : Nat} (ha : a < 16) (hb : b < 16) : bits .or .u8 ((a : Int) * 16) (b : Int) = (a : Int) * 16 + b := by
  have h : ∀ a b : Fin 16, bits .or .u8 ((a.1 : Int) * 16) (b.1 : Int) = (a.1 : Int) * 16 + b.1 := by decide +kernel
  exact h ⟨a, ha⟩ ⟨b, hb⟩

theorem ret_bytes {a b : ByteArray} {x y : Int} (h : a = b) (k : x = y) : Ending.returned (.tuple #[.string a, .int .i64 x]) = .returned (.tuple #[.string b, .int .i64 y]) := by rw [h, k]

set_option maxHeartbeats 400000 in
theorem Bytes_any (s : ByteArray) (w : World) (hs : s.size ≤ 100000) :
    Calls Tryz.prog 63 #[.string s] w fun e w' => e = .returned (.tuple #[.string (str (M.unb (bl s))), .int .i64 (M.unc (bl s))]) ∧ Below w.heap.size w w' := by
  by_cases hodd : s.size % 2 = 0
  · have hb : ((s.size : Int) % 2 != 0) = false := by simp; omega
    have H := Lib.hid hodd
    clear hodd
    have hmk := make_bytes (s.size / 2) (by omega) ((s.size : Int) / 2) (by omega)
    go_enter Tryz.func63, Tryz.ntmps63
    go_wp2
    clear hmk
    go_loopg [20] (s.size / 2) (fun g i wr => ∃ k : Nat, k ≤ s.size / 2 ∧ g = s.size / 2 - k ∧ i = .int .i64 k ∧ (∀ j, j < k → M.good (bl s) j = true) ∧ wr.rowIs w.heap.size 5 (s.size / 2) (fill (M.byteAt (bl s)) k) ∧ Below w.heap.size w wr)
    case atStart => exact ⟨0, Nat.zero_le _, rfl, rfl, fun j hj => absurd hj (Nat.not_lt_zero _), fill_start w _ _, (Below.refl _ _).alloc (Nat.le_refl _) _⟩
    case round =>
      obtain ⟨k, hk, rfl, rfl, hgood, hrow, hbl⟩ := hrel
      have HG := Lib.hid hgood
      clear hgood
      by_cases hlt : k < s.size / 2
      · have h1 : (k : Int) < (s.size : Int) / 2 := by omega
        have h2 : 2 * k + 1 < s.size := by omega
        have hc := hrow.cell hlt
        have hf := hrow.frozen k
        have e0 := bl_getD s (2 * k) (by omega)
        have e1 := bl_getD s (2 * k + 1) (by omega)
        have E0 := Lib.hid e0
        have E1 := Lib.hid e1
        clear e0 e1
        have v0 := M.worthV_lt s[2 * k]
        have v1 := M.worthV_lt s[2 * k + 1]
        by_cases hg : M.good (bl s) k = true
        · have hg' := hg
          simp only [M.good, E0.out, E1.out, Bool.and_eq_true] at hg'
          obtain ⟨hg0, hg1⟩ := hg'
          have HK := Lib.hid hg
          clear hg
          go_wp2_with (go_at_call 85; refine (worth_any _ _).mono ?_; rintro e w' ⟨rfl, rfl⟩)
          go_roundg (s.size / 2 - (k + 1))
          case rel =>
            refine ⟨k + 1, by omega, rfl, by go_num, fun j hj => ?_, fill_set hrow ?_, hbl.setCell (Nat.le_refl _) _⟩
            · by_cases e : j = k
              · subst e; exact HK.out
              · exact HG.out j (by omega)
            · rw [or_byte v0 v1, M.byteAt, E0.out, E1.out, UInt8.toNat_ofNat', Nat.mod_eq_of_lt (by omega)]
              omega
          case measure => omega
        · have hn := M.undig_bad (bl s) k (by rw [bl_length]; exact hlt) (by simpa using hg)
          have HN := Lib.hid hn
          clear hn
          simp only [M.good, E0.out, E1.out, Bool.and_eq_true, not_and, Bool.not_eq_true] at hg
          cases hg0 : M.worthB s[2 * k]
          · clear hg
            go_wp2_with (go_at_call 85; refine (worth_any _ _).mono ?_; rintro e w' ⟨rfl, rfl⟩)
            go_ret2
            exact ⟨ret_bytes (by simp [M.unb, HN.out, str]) (by simp [M.unc, HN.out]), hbl⟩
          · have hg1 := hg hg0
            clear hg
            go_wp2_with (go_at_call 85; refine (worth_any _ _).mono ?_; rintro e w' ⟨rfl, rfl⟩)
            go_ret2
            exact ⟨ret_bytes (by simp [M.unb, HN.out, str]) (by simp [M.unc, HN.out]), hbl⟩
      · have h1 : ¬ (k : Int) < (s.size : Int) / 2 := by omega
        obtain rfl : k = s.size / 2 := by omega
        have hok := M.undig_ok (bl s) (by rw [bl_length]; exact H.out) (by rw [bl_length]; exact HG.out)
        rw [bl_length] at hok
        have HK := Lib.hid hok
        clear hok
        have hconv := row_string wr _ _ _ (fill_done hrow) (s.size / 2)
        go_wp2
        go_ret2
        exact ⟨ret_bytes (by simp [M.unb, HK.out]) (by simp [M.unc, HK.out]), hbl⟩
  · have hb : ((s.size : Int) % 2 != 0) = true := by simp; omega
    have H := Lib.hid hodd
    clear hodd
    go_enter Tryz.func63, Tryz.ntmps63
    go_wp2
    go_ret2
    have hn : M.undig (bl s) = none := M.undig_odd _ (by rw [bl_length]; have := H.out; omega)
    exact ⟨ret_bytes (by simp [M.unb, hn, str]) (by simp [M.unc, hn]), Below.refl _ _⟩
end Go.Proofs.YtapjgdhdgpakhaaGreatDoor
