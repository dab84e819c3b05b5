/-
  Plain facts on digits, bytes and their lists: no part of the program is named here.
  Contracts of the package hexa's small functions: what one call returns, and that the world stays.
  Plain facts on beginnings, on what is found by one, and on the least one: no part of the program is named here.
  Contracts of the package hexa's readers: Short, Begins, alike, Size, Space, Find, Least.
  Contracts of Find and Least, and of the statements' own few and awake.
  Contracts of the statements' own few and awake.
  The last step of a law's row: the call returned true, made memory at most, and changed nothing that was there; and texts held against each other.
  Contracts of the document's own answers for layer 1: digit, value, Size, Space, Short, Digits, Begins, Bytes.
  Contracts of the document's own Digits, Begins and Bytes.
-/
import GoSem.Claim
import Derived.Test.YtmbbigmnliiadaaDoorRows
import Derived.WalkKit
import Derived.ProofKit
import Derived.Below
import Derived.Lib.Hide
import Derived.Deep.OwnRows
import Derived.Laws.BytesArg
import Derived.Deep.LoopGhost
import Derived.Deep.QuietTactic
import Derived.BigQuiet
import Derived.ChangeSame
import Derived.Carry
import Derived.SliceStrings
import Derived.ShutString
import Derived.OpenShut
import Derived.Maps.AppendAt
import Derived.OwnWalk
import Derived.Deep.RegionHeld3
import Derived.Deep.AppendLies
import Derived.IntWalk
namespace Go.Proofs.YtmbbigmnliiadaaDoor.M

def hexc (n : Nat) : UInt8 := UInt8.ofNat (if n < 10 then 48 + n else 87 + n)
theorem hexc_toNat {n : Nat} (h : n < 16) : (hexc n).toNat = if n < 10 then 48 + n else 87 + n := by
  unfold hexc
  rw [UInt8.toNat_ofNat']
  apply Nat.mod_eq_of_lt
  split <;> omega

def worthB (c : UInt8) : Bool := decide (48 ≤ c.toNat ∧ c.toNat ≤ 57 ∨ 97 ≤ c.toNat ∧ c.toNat ≤ 102)
def worthV (c : UInt8) : Nat := if 48 ≤ c.toNat ∧ c.toNat ≤ 57 then c.toNat - 48 else if 97 ≤ c.toNat ∧ c.toNat ≤ 102 then c.toNat - 87 else 0
theorem worthV_lt (c : UInt8) : worthV c < 16 := by
  unfold worthV
  repeat' split
  all_goals omega
theorem worthB_hexc {n : Nat} (h : n < 16) : worthB (hexc n) = true := by
  unfold worthB
  rw [hexc_toNat h]
  simp only [decide_eq_true_eq]
  split <;> omega
theorem worthV_hexc {n : Nat} (h : n < 16) : worthV (hexc n) = n := by
  unfold worthV
  rw [hexc_toNat h]
  repeat' split
  all_goals omega
theorem hexc_worthV {c : UInt8} (h : worthB c = true) : hexc (worthV c) = c := by
  apply UInt8.toNat_inj.1
  rw [hexc_toNat (worthV_lt c)]
  unfold worthB at h
  simp only [decide_eq_true_eq] at h
  unfold worthV
  repeat' split
  all_goals omega
theorem hexc_lt_iff {m n : Nat} (hm : m < 16) (hn : n < 16) : hexc m < hexc n ↔ m < n := by
  rw [UInt8.lt_iff_toNat_lt, hexc_toNat hm, hexc_toNat hn]
  repeat' split
  all_goals omega
theorem hexc_inj {m n : Nat} (hm : m < 16) (hn : n < 16) (h : hexc m = hexc n) : m = n := by
  rw [← worthV_hexc hm, ← worthV_hexc hn, h]

/-- the digits of bytes -/
def digs : List UInt8 → List UInt8
  | [] => []
  | c :: r => hexc (c.toNat / 16) :: hexc (c.toNat % 16) :: digs r
theorem digs_length (l : List UInt8) : (digs l).length = 2 * l.length := by
  induction l with
  | nil => rfl
  | cons c r ih => simp [digs, ih]; omega
theorem digs_append (a b : List UInt8) : digs (a ++ b) = digs a ++ digs b := by
  induction a with
  | nil => rfl
  | cons c r ih => simp [digs, ih]

/-- the digit at a place -/
def dig (l : List UInt8) (k : Nat) : UInt8 := hexc (if k % 2 = 0 then (l.getD (k / 2) 0).toNat / 16 else (l.getD (k / 2) 0).toNat % 16)
theorem digs_get (l : List UInt8) (k : Nat) (h : k < 2 * l.length) : (digs l)[k]? = some (dig l k) := by
  induction l generalizing k with
  | nil => simp at h
  | cons c r ih =>
    match k with
    | 0 => simp [digs, dig]
    | 1 => simp [digs, dig]
    | k + 2 =>
      have h2 : k < 2 * r.length := by simp at h; omega
      have e1 : (k + 2) % 2 = k % 2 := by omega
      have e2 : (k + 2) / 2 = k / 2 + 1 := by omega
      simp only [digs, List.getElem?_cons_succ, ih k h2, dig, e1, e2, List.getD_cons_succ]
theorem digs_getD (l : List UInt8) (k : Nat) (h : k < 2 * l.length) : (digs l).getD k 0 = dig l k := by
  simp [List.getD, digs_get l k h]
theorem digs_eq_map (l : List UInt8) : digs l = (List.range (2 * l.length)).map (dig l) := by
  apply List.ext_getElem?
  intro k
  by_cases h : k < 2 * l.length
  · rw [digs_get l k h]; simp [h]
  · rw [List.getElem?_eq_none (by rw [digs_length]; omega), List.getElem?_eq_none (by simp; omega)]

/-- the bytes of digits -/
def good (s : List UInt8) (i : Nat) : Bool := worthB (s.getD (2 * i) 0) && worthB (s.getD (2 * i + 1) 0)
def byteAt (s : List UInt8) (i : Nat) : UInt8 := UInt8.ofNat (16 * worthV (s.getD (2 * i) 0) + worthV (s.getD (2 * i + 1) 0))
def undig : List UInt8 → Option (List UInt8)
  | [] => some []
  | [_] => none
  | a :: b :: r => if worthB a && worthB b then (undig r).map (UInt8.ofNat (16 * worthV a + worthV b) :: ·) else none

theorem undig_digs (l : List UInt8) : undig (digs l) = some l := by
  induction l with
  | nil => rfl
  | cons c r ih =>
    have hc : c.toNat < 256 := c.toNat_lt
    have h1 : c.toNat / 16 < 16 := by omega
    have h2 : c.toNat % 16 < 16 := by omega
    have e : 16 * (c.toNat / 16) + c.toNat % 16 = c.toNat := by omega
    simp [digs, undig, worthB_hexc h1, worthB_hexc h2, worthV_hexc h1, worthV_hexc h2, ih, e]
theorem digs_undig : ∀ (s l : List UInt8), undig s = some l → digs l = s
  | [], l, h => by simp [undig] at h; subst h; rfl
  | [_], l, h => by simp [undig] at h
  | a :: b :: r, l, h => by
    simp only [undig] at h
    split at h
    · rename_i hab
      simp only [Bool.and_eq_true] at hab
      obtain ⟨l', h', rfl⟩ := Option.map_eq_some_iff.1 h
      have ih := digs_undig r l' h'
      have ha := worthV_lt a
      have hb := worthV_lt b
      have e : (UInt8.ofNat (16 * worthV a + worthV b)).toNat = 16 * worthV a + worthV b := by
        rw [UInt8.toNat_ofNat']; apply Nat.mod_eq_of_lt; omega
      simp only [digs, e, ih]
      rw [show (16 * worthV a + worthV b) / 16 = worthV a by omega, show (16 * worthV a + worthV b) % 16 = worthV b by omega, hexc_worthV hab.1, hexc_worthV hab.2]
    · simp at h
theorem undig_odd : ∀ (s : List UInt8), s.length % 2 = 1 → undig s = none
  | [], h => by simp at h
  | [_], _ => rfl
  | a :: b :: r, h => by
    have := undig_odd r (by simp at h; omega)
    simp [undig, this]
theorem undig_bad : ∀ (s : List UInt8) (i : Nat), i < s.length / 2 → good s i = false → undig s = none
  | [], i, h, _ => by simp at h
  | [_], _, _, _ => rfl
  | a :: b :: r, 0, _, hg => by
    simp [good] at hg
    simp only [undig]
    rw [if_neg]
    simp; exact hg
  | a :: b :: r, i + 1, h, hg => by
    have := undig_bad r i (by simp at h; omega) (by
      rw [← hg]
      simp [good, show 2 * (i + 1) = 2 * i + 1 + 1 by omega])
    simp [undig, this]
theorem undig_ok : ∀ (s : List UInt8), s.length % 2 = 0 → (∀ i, i < s.length / 2 → good s i = true) → undig s = some ((List.range (s.length / 2)).map (byteAt s))
  | [], _, _ => rfl
  | [_], h, _ => by simp at h
  | a :: b :: r, h, hg => by
    have ih := undig_ok r (by simp at h; omega) (fun i hi => by
      have := hg (i + 1) (by simp; omega)
      rw [← this]
      simp [good, show 2 * (i + 1) = 2 * i + 1 + 1 by omega])
    have h0 := hg 0 (by simp)
    simp [good] at h0
    have hl : (a :: b :: r).length / 2 = r.length / 2 + 1 := by simp; omega
    rw [hl, List.range_succ_eq_map]
    simp only [undig, h0.1, h0.2, ih, List.map_cons, List.map_map]
    simp [byteAt, Function.comp_def, show ∀ i, 2 * (i + 1) = 2 * i + 1 + 1 from fun i => by omega]
def unb (s : List UInt8) : List UInt8 := (undig s).getD []
def unc (s : List UInt8) : Int := if (undig s).isSome then 0 else 3

/-- the order of texts is that of their digits -/
theorem digs_lt : ∀ (a b : List UInt8), digs a < digs b ↔ a < b
  | [], [] => by simp [digs]
  | [], c :: r => by simp [digs]
  | c :: r, [] => by simp [digs]
  | c :: r, d :: t => by
    have ih := digs_lt r t
    have hc : c.toNat < 256 := c.toNat_lt
    have hd : d.toNat < 256 := d.toNat_lt
    simp only [digs, List.cons_lt_cons_iff, ih, hexc_lt_iff (show c.toNat / 16 < 16 by omega) (show d.toNat / 16 < 16 by omega), hexc_lt_iff (show c.toNat % 16 < 16 by omega) (show d.toNat % 16 < 16 by omega), UInt8.lt_iff_toNat_lt]
    constructor
    · rintro (h | ⟨h1, h | ⟨h2, h⟩⟩)
      · left; omega
      · have := hexc_inj (by omega) (by omega) h1; left; omega
      · have e1 := hexc_inj (by omega) (by omega) h1
        have e2 := hexc_inj (by omega) (by omega) h2
        right
        exact ⟨UInt8.toNat_inj.1 (by omega), h⟩
    · rintro (h | ⟨rfl, h⟩)
      · by_cases e : c.toNat / 16 < d.toNat / 16
        · left; exact e
        · have e1 : c.toNat / 16 = d.toNat / 16 := by omega
          right
          refine ⟨by rw [e1], .inl (by omega)⟩
      · right; exact ⟨rfl, .inr ⟨rfl, h⟩⟩

end Go.Proofs.YtmbbigmnliiadaaDoor.M
namespace Go.Proofs.YtmbbigmnliiadaaDoor
open Go.RowKit

theorem Tryd.info5 : (Tryd.prog.info? 5).map (fun i => (i.zero, i.size, i.bytes)) = some (some (.int .u8 0), 1, 1) := by kernel_rfl

/-- the bytes of a string -/
def bl (s : ByteArray) : List UInt8 := s.data.toList
theorem bl_length (s : ByteArray) : (bl s).length = s.size := by simp [bl]
theorem bl_getD (s : ByteArray) (k : Nat) (h : k < s.size) : (bl s).getD k 0 = s[k] := by
  unfold bl
  rw [List.getD_eq_getElem?_getD, List.getElem?_eq_getElem (by simpa using h)]
  rfl
def str (l : List UInt8) : ByteArray := ⟨l.toArray⟩
theorem bl_str (l : List UInt8) : bl (str l) = l := by simp [bl, str]
theorem str_bl (s : ByteArray) : str (bl s) = s := by simp [bl, str]
theorem str_size (l : List UInt8) : (str l).size = l.length := by simp [str, ByteArray.size]

theorem ret_int {k : IntKind} {a b : Int} (h : a = b) : Ending.returned (.int k a) = .returned (.int k b) := by rw [h]

theorem ret_str {a b : ByteArray} (h : a = b) : Ending.returned (.string a) = .returned (.string b) := by rw [h]

theorem table_get (n : Nat) (h : n < 16) : (({ data := #[48, 49, 50, 51, 52, 53, 54, 55, 56, 57, 97, 98, 99, 100, 101, 102] } : ByteArray)[n]'h) = M.hexc n := by
  have : ∀ n : Fin 16, (({ data := #[48, 49, 50, 51, 52, 53, 54, 55, 56, 57, 97, 98, 99, 100, 101, 102] } : ByteArray)[n.1]'n.2) = M.hexc n.1 := by decide
  exact this ⟨n, h⟩

set_option maxHeartbeats 400000 in
theorem digit_any (b : ByteArray) (k : Nat) (w : World) (hs : b.size ≤ 100000) (h1 : k < 2 * b.size) :
    Calls Tryd.prog 35 #[.string b, .int .i64 k] w fun e w' => e = .returned (.int .u8 (M.dig (bl b) k).toNat) ∧ w = w' := by
  have hk : k / 2 < b.size := by omega
  have hk2 : (k : Int) / 2 < b.size := by omega
  have hk3 : b[k / 2].toNat < 256 := b[k / 2].toNat_lt
  by_cases h : k % 2 = 0
  · have hb : ((k : Int) % 2 == 0) = true := by simp; omega
    have H := Lib.hid h
    clear h
    go_enter Tryd.func35, Tryd.ntmps35
    go_wp2
    go_ret
    exact ⟨ret_int (by rw [table_get _ (by omega), M.dig, if_pos H.out, bl_getD b _ hk]), rfl⟩
  · have hb : ((k : Int) % 2 == 0) = false := by simp; omega
    have H := Lib.hid h
    clear h
    go_enter Tryd.func35, Tryd.ntmps35
    go_wp2
    go_ret
    exact ⟨ret_int (by rw [table_get _ (by omega), M.dig, if_neg H.out, bl_getD b _ hk]), rfl⟩

theorem ret_worth {a b : Int} {x y : Bool} (h : a = b) (k : x = y) : Ending.returned (.tuple #[.int .u8 a, .bool x]) = .returned (.tuple #[.int .u8 b, .bool y]) := by rw [h, k]
theorem worth_d {c : UInt8} (h1 : 48 ≤ (c.toNat : Int)) (h2 : (c.toNat : Int) ≤ 57) : (c.toNat : Int) - 48 = (M.worthV c : Int) ∧ true = M.worthB c := by
  refine ⟨by unfold M.worthV; rw [if_pos (by omega)]; omega, by simp [M.worthB]; omega⟩
theorem worth_a {c : UInt8} (h1 : 97 ≤ (c.toNat : Int)) (h2 : (c.toNat : Int) ≤ 102) : (c.toNat : Int) - 97 + 10 = (M.worthV c : Int) ∧ true = M.worthB c := by
  refine ⟨by unfold M.worthV; rw [if_neg (by omega), if_pos (by omega)]; omega, by simp [M.worthB]; omega⟩
theorem worth_n {c : UInt8} (h1 : ¬ (48 ≤ c.toNat ∧ c.toNat ≤ 57)) (h2 : ¬ (97 ≤ c.toNat ∧ c.toNat ≤ 102)) : (0 : Int) = (M.worthV c : Int) ∧ false = M.worthB c := by
  refine ⟨by unfold M.worthV; rw [if_neg h1, if_neg h2]; rfl, ?_⟩
  simp only [M.worthB, false_eq_decide_iff]; omega

theorem row_string (w : World) (n : Nat) (f : Nat → UInt8) (g : Nat) (h : w.rowIs g 5 n (fun j => .int .u8 (f j).toNat)) (cap : Nat) :
    (convert 41 9 (.slice (some ⟨g, 0, none⟩) n cap)).run Tryd.prog w = .ok (.string (str ((List.range n).map f))) w := by
  rw [run_convert_bytes_arg w 41 5 Tryd.underlying41 Tryd.underlying5 g 0 n cap ((List.range n).map fun j => ((f j).toNat : Int)) (by simp) (fun i hi => by
    have := h.cell hi
    simp only [Nat.zero_add]
    rw [this]
    simp [List.getD, hi]) 9 Tryd.underlying9]
  simp [strOfNums, str, Function.comp_def]

theorem make_bytes (n : Nat) (hn : n ≤ 1000000) (x : Int) (hx : x = n) (w : World) :
    (Instr.makeSlice 41 (.int .i64 x) (.int .i64 x)).run Tryd.prog w = .ok (.slice (some ⟨w.heap.size, 0, none⟩) n n) (w.alloc (.cells (madeCells #[.int .u8 0] n) 5)) := by
  subst hx
  exact run_make_row' (P := Tryd.prog) 41 5 (.int .u8 0) 1 Tryd.underlying41 Tryd.info5 rfl .i64 .i64 n (by omega) (by omega) w

/-- k bytes are filled in -/
def fill (f : Nat → UInt8) (k : Nat) : Nat → Value := fun j => .int .u8 (if j < k then f j else 0).toNat
theorem fill_start (w : World) (f : Nat → UInt8) (n : Nat) : (w.alloc (.cells (madeCells #[.int .u8 0] n) 5)).rowIs w.heap.size 5 n (fill f 0) :=
  (World.rowIs_made w _ n 5).congr fun j _ => by simp [fill]
theorem fill_set {w : World} {f : Nat → UInt8} {g n k : Nat} (h : w.rowIs g 5 n (fill f k)) {x : Int} (hx : x = (f k).toNat) : (w.setCell ⟨g, k, none⟩ (.int .u8 x)).rowIs g 5 n (fill f (k + 1)) := by
  subst hx
  refine (h.set k _).congr fun j _ => ?_
  simp only [fill]
  by_cases e : j = k
  · subst e; simp
  · rw [if_neg e]
    by_cases hlt : j < k
    · rw [if_pos hlt, if_pos (by omega)]
    · rw [if_neg hlt, if_neg (by omega)]
theorem fill_done {w : World} {f : Nat → UInt8} {g n : Nat} (h : w.rowIs g 5 n (fill f n)) : w.rowIs g 5 n (fun j => .int .u8 (f j).toNat) :=
  h.congr fun j hj => by simp [fill, hj]

set_option maxHeartbeats 400000 in
theorem Digits_any (b : ByteArray) (w : World) (hs : b.size ≤ 100000) :
    Calls Tryd.prog 26 #[.string b] w fun e w' => e = .returned (.string (str (M.digs (bl b)))) ∧ Below w.heap.size w w' := by
  have hmk := make_bytes (2 * b.size) (by omega) (2 * (b.size : Int)) (by omega)
  go_enter Tryd.func26, Tryd.ntmps26
  go_wp2
  clear hmk
  go_loopg [11] (2 * b.size) (fun g i wr => ∃ k : Nat, k ≤ 2 * b.size ∧ g = 2 * b.size - k ∧ i = .int .i64 k ∧ wr.rowIs w.heap.size 5 (2 * b.size) (fill (M.dig (bl b)) k) ∧ Below w.heap.size w wr)
  case atStart => exact ⟨0, Nat.zero_le _, rfl, rfl, fill_start w _ _, (Below.refl _ _).alloc (Nat.le_refl _) _⟩
  case round =>
    obtain ⟨k, hk, rfl, rfl, hrow, hbl⟩ := hrel
    by_cases hlt : k < 2 * b.size
    · have h1 : (k : Int) < 2 * b.size := by omega
      have hc := hrow.cell hlt
      have hf := hrow.frozen k
      go_wp2_with (go_at_call 35; refine (digit_any _ _ _ hs hlt).mono ?_; rintro e w' ⟨rfl, rfl⟩)
      go_roundg (2 * b.size - (k + 1))
      case rel => exact ⟨k + 1, by omega, rfl, by go_num, fill_set hrow rfl, hbl.setCell (Nat.le_refl _) _⟩
      case measure => omega
    · have h1 : ¬ (k : Int) < 2 * b.size := by omega
      obtain rfl : k = 2 * b.size := by omega
      have hconv := row_string wr _ _ _ (fill_done hrow) (2 * b.size)
      go_wp2
      go_ret
      exact ⟨ret_str (by rw [M.digs_eq_map, bl_length]), hbl⟩

theorem or_byte {a b : Nat} (ha : a < 16) (hb : b < 16) : bits .or .u8 ((a : Int) * 16) (b : Int) = (a : Int) * 16 + b := by
  have h : ∀ a b : Fin 16, bits .or .u8 ((a.1 : Int) * 16) (b.1 : Int) = (a.1 : Int) * 16 + b.1 := by decide +kernel
  exact h ⟨a, ha⟩ ⟨b, hb⟩

theorem ret_bytes {a b : ByteArray} {x y : Int} (h : a = b) (k : x = y) : Ending.returned (.tuple #[.string a, .int .i64 x]) = .returned (.tuple #[.string b, .int .i64 y]) := by rw [h, k]

end Go.Proofs.YtmbbigmnliiadaaDoor
namespace Go.Proofs.YtmbbigmnliiadaaDoor.M

/-- do the digits of b begin with s? -/
def begB (b s : List UInt8) : Bool := s.isPrefixOf (digs b)
theorem begB_iff (b s : List UInt8) : begB b s = true ↔ s.length ≤ 2 * b.length ∧ ∀ k, k < s.length → dig b k = s.getD k 0 := by
  unfold begB
  rw [List.isPrefixOf_iff_prefix, List.prefix_iff_eq_take]
  constructor
  · intro h
    have hl : s.length ≤ 2 * b.length := by
      have := congrArg List.length h
      rw [List.length_take, digs_length] at this
      omega
    refine ⟨hl, fun k hk => ?_⟩
    have h1 : s[k]? = (digs b)[k]? := by
      conv => lhs; rw [h]
      rw [List.getElem?_take_of_lt hk]
    rw [digs_get b k (by omega)] at h1
    simp [List.getD, h1]
  · rintro ⟨hl, h⟩
    apply List.ext_getElem?
    intro k
    by_cases hk : k < s.length
    · rw [List.getElem?_take_of_lt hk, digs_get b k (by omega), h k hk, List.getD_eq_getElem?_getD, List.getElem?_eq_getElem hk]
      rfl
    · rw [List.getElem?_eq_none (by omega), List.getElem?_eq_none (by rw [List.length_take, digs_length]; omega)]
theorem begB_long {b s : List UInt8} (h : 2 * b.length < s.length) : begB b s = false := by
  rw [Bool.eq_false_iff]
  intro h'
  have := ((begB_iff b s).1 h').1
  omega
theorem begB_ne {b s : List UInt8} {k : Nat} (hk : k < s.length) (h : dig b k ≠ s.getD k 0) : begB b s = false := by
  rw [Bool.eq_false_iff]
  intro h'
  exact h (((begB_iff b s).1 h').2 k hk)
theorem begB_take {b s : List UInt8} (n : Nat) (h : begB b s = true) : begB b (s.take n) = true := by
  unfold begB at h ⊢
  rw [List.isPrefixOf_iff_prefix] at h ⊢
  exact (List.take_prefix n s).trans h

/-- is it a beginning? -/
def shortC (s : List UInt8) : Int := if s.length < 4 ∨ 64 < s.length then 1 else if s.all worthB then 0 else 3
theorem shortC_range {s : List UInt8} (h : s.length < 4 ∨ 64 < s.length) : shortC s = 1 := by simp [shortC, h]
theorem shortC_bad {s : List UInt8} (h : ¬ (s.length < 4 ∨ 64 < s.length)) {k : Nat} (hk : k < s.length) (hb : worthB (s.getD k 0) = false) : shortC s = 3 := by
  unfold shortC
  rw [if_neg h, if_neg]
  rw [List.all_eq_true]
  intro ha
  have := ha s[k] (List.getElem_mem hk)
  rw [List.getD_eq_getElem?_getD, List.getElem?_eq_getElem hk, Option.getD_some, this] at hb
  cases hb
theorem shortC_ok {s : List UInt8} (h : ¬ (s.length < 4 ∨ 64 < s.length)) (hb : ∀ k, k < s.length → worthB (s.getD k 0) = true) : shortC s = 0 := by
  unfold shortC
  rw [if_neg h, if_pos]
  rw [List.all_eq_true]
  intro x hx
  obtain ⟨k, hk, rfl⟩ := List.getElem_of_mem hx
  have := hb k hk
  rwa [List.getD_eq_getElem?_getD, List.getElem?_eq_getElem hk, Option.getD_some] at this

/-- with how many digits two begin that are the same -/
def alikeN : List UInt8 → List UInt8 → Nat
  | x :: a, y :: b => if x = y then alikeN a b + 1 else 0
  | _, _ => 0
theorem alikeN_of {a b : List UInt8} : ∀ {k : Nat}, k ≤ a.length → k ≤ b.length → (∀ j, j < k → a.getD j 0 = b.getD j 0) → (k = a.length ∨ k = b.length ∨ a.getD k 0 ≠ b.getD k 0) → alikeN a b = k := by
  induction a generalizing b with
  | nil => intro k ha _ _ _; simp at ha; simp [alikeN, ha]
  | cons x a ih =>
    intro k ha hb h1 h2
    cases b with
    | nil => simp at hb; simp [alikeN, hb]
    | cons y b =>
      match k with
      | 0 =>
        simp at h2
        simp [alikeN, h2]
      | k + 1 =>
        have h0 := h1 0 (by omega)
        simp at h0
        simp only [alikeN, if_pos h0]
        congr 1
        refine ih (by simpa using ha) (by simpa using hb) (fun j hj => ?_) ?_
        · have := h1 (j + 1) (by omega)
          simpa using this
        · simpa using h2

/-- what is found by a beginning -/
def findR (l : List (List UInt8)) (s : List UInt8) : List UInt8 × Int :=
  if shortC s ≠ 0 then ([], shortC s) else
  match l.filter (begB · s) with
  | [] => ([], 5)
  | x :: r => if r.all (· == x) then (x, 0) else ([], 11)
theorem findR_short {l : List (List UInt8)} {s : List UInt8} (h : shortC s ≠ 0) : findR l s = ([], shortC s) := by simp [findR, h]
theorem findR_none {l : List (List UInt8)} {s : List UInt8} (h : shortC s = 0) (hn : ∀ x ∈ l, begB x s = false) : findR l s = ([], 5) := by
  have : l.filter (begB · s) = [] := by
    rw [List.filter_eq_nil_iff]
    intro x hx; simp [hn x hx]
  simp [findR, h, this]
theorem findR_one {l : List (List UInt8)} {s x : List UInt8} (h : shortC s = 0) (hx : x ∈ l) (hb : begB x s = true) (ha : ∀ y ∈ l, begB y s = true → y = x) : findR l s = (x, 0) := by
  have hm : x ∈ l.filter (begB · s) := List.mem_filter.2 ⟨hx, hb⟩
  have hall : ∀ y ∈ l.filter (begB · s), y = x := fun y hy => ha y (List.mem_filter.1 hy).1 (List.mem_filter.1 hy).2
  cases hf : l.filter (begB · s) with
  | nil => rw [hf] at hm; cases hm
  | cons y r =>
    rw [hf] at hall
    have hy := hall y (by simp)
    subst hy
    have : r.all (· == y) = true := by
      rw [List.all_eq_true]
      intro z hz
      simp [hall z (by simp [hz])]
    simp only [findR, h, ne_eq, not_true_eq_false, if_false, hf, this, if_true]
theorem findR_many {l : List (List UInt8)} {s x y : List UInt8} (h : shortC s = 0) (hx : x ∈ l) (hbx : begB x s = true) (hy : y ∈ l) (hby : begB y s = true) (hne : x ≠ y) : findR l s = ([], 11) := by
  have hmx : x ∈ l.filter (begB · s) := List.mem_filter.2 ⟨hx, hbx⟩
  have hmy : y ∈ l.filter (begB · s) := List.mem_filter.2 ⟨hy, hby⟩
  cases hf : l.filter (begB · s) with
  | nil => rw [hf] at hmx; cases hmx
  | cons z r =>
    rw [hf] at hmx hmy
    have : r.all (· == z) = false := by
      rw [Bool.eq_false_iff]
      intro hall
      rw [List.all_eq_true] at hall
      have hz : ∀ u ∈ z :: r, u = z := by
        intro u hu
        rcases List.mem_cons.1 hu with rfl | hu
        · rfl
        · simpa using hall u hu
      exact hne ((hz x hmx).trans (hz y hmy).symm)
    simp only [findR, h, ne_eq, not_true_eq_false, if_false, hf, this]
    simp

/-- the least number of digits, by the program's way -/
def leastN (l : List (List UInt8)) (b : List UInt8) : Nat → Nat
  | 0 => 4
  | k + 1 => if l.getD k [] = b then leastN l b k else max (leastN l b k) (alikeN (digs (l.getD k [])) (digs b) + 1)
def least (l : List (List UInt8)) (b : List UInt8) : Nat := max 4 (min (leastN l b l.length) (2 * b.length))
theorem alikeN_le (a b : List UInt8) : alikeN a b ≤ b.length := by
  induction a generalizing b with
  | nil => simp [alikeN]
  | cons x a ih =>
    cases b with
    | nil => simp [alikeN]
    | cons y b =>
      simp only [alikeN, List.length_cons]
      have := ih b
      split <;> omega
theorem leastN_le (l : List (List UInt8)) (b : List UInt8) (k : Nat) : leastN l b k ≤ max 4 (2 * b.length + 1) := by
  induction k with
  | zero => simp [leastN]; omega
  | succ k ih =>
    have := alikeN_le (digs (l.getD k [])) (digs b)
    rw [digs_length] at this
    simp only [leastN]
    split <;> omega
end Go.Proofs.YtmbbigmnliiadaaDoor.M
namespace Go.Proofs.YtmbbigmnliiadaaDoor
open Go.RowKit
set_option linter.unusedVariables false

theorem quiet_left {P : Program} {f : FuncId} {args : Array Value} {w : World} {n : Nat} {v : Value}
    (h : Calls P f args (w.drewN n) fun e w' => e = .returned v ∧ w.drewN n = w') : Calls P f args (w.drewN n) fun e w'' => e = .returned v ∧ ∃ m, w'' = w.drewN m :=
  h.mono fun _ _ ⟨he, hm⟩ => ⟨he, n, hm.symm⟩

/-- drawn from, and else as it was -/
def Drawn (w w' : World) : Prop := ∃ n, w' = w.drewN n
theorem Drawn.refl (w : World) : Drawn w w := ⟨0, rfl⟩
theorem Drawn.trans {a b c : World} (h : Drawn a b) (k : Drawn b c) : Drawn a c := by
  obtain ⟨n, rfl⟩ := h
  obtain ⟨m, rfl⟩ := k
  exact ⟨n + m, by rw [World.drewN_drewN]⟩
theorem Drawn.more {a b : World} (h : Drawn a b) (n : Nat) : Drawn a (b.drewN n) := h.trans ⟨n, rfl⟩
theorem Drawn.cell {a b : World} (h : Drawn a b) (p : Addr) : b.cell? p = a.cell? p := by obtain ⟨n, rfl⟩ := h; rfl
theorem Drawn.heap {a b : World} (h : Drawn a b) : b.heap = a.heap := by obtain ⟨n, rfl⟩ := h; rfl
theorem Drawn.below {a b : World} (h : Drawn a b) (B : Nat) : Below B a b := by obtain ⟨n, rfl⟩ := h; exact ⟨rfl, rfl, rfl, Nat.le_refl _, fun _ _ => rfl⟩

theorem ret_bool {a b : Bool} (h : a = b) : Ending.returned (.bool a) = .returned (.bool b) := by rw [h]

theorem Size_any (x : Int) (w : World) :
    Calls Tryd.prog 29 #[.int .i64 x] w fun e w' => e = .returned (.int .i64 (if x = 1 then 20 else if x = 2 then 32 else 0)) ∧ w = w' := by
  by_cases h1 : x = 1
  · subst h1
    go_enter Tryd.func29, Tryd.ntmps29
    go_wp2
    go_ret
    exact ⟨rfl, rfl⟩
  · by_cases h2 : x = 2
    · subst h2
      go_enter Tryd.func29, Tryd.ntmps29
      go_wp2
      go_ret
      exact ⟨rfl, rfl⟩
    · rw [if_neg h1, if_neg h2]
      have b1 : (x == 1) = false := beq_eq_false_iff_ne.2 h1
      have b2 : (x == 2) = false := beq_eq_false_iff_ne.2 h2
      clear h1 h2
      go_enter Tryd.func29, Tryd.ntmps29
      go_wp2
      go_ret
      exact ⟨rfl, rfl⟩

def spaceN (n : Nat) : Int := if n = 20 then 1 else if n = 32 then 2 else 0
theorem Space_any (s : ByteArray) (w : World) :
    Calls Tryd.prog 20 #[.string s] w fun e w' => e = .returned (.int .i64 (spaceN s.size)) ∧ w = w' := by
  by_cases h1 : s.size = 20
  · have b1 : ((s.size : Int) == 20) = true := by rw [h1]; rfl
    have H := Lib.hid h1
    clear h1
    go_enter Tryd.func20, Tryd.ntmps20
    go_wp2
    go_ret
    exact ⟨ret_int (by rw [spaceN, if_pos H.out]), rfl⟩
  · have b1 : ((s.size : Int) == 20) = false := beq_eq_false_iff_ne.2 (by omega)
    by_cases h2 : s.size = 32
    · have b2 : ((s.size : Int) == 32) = true := by rw [h2]; rfl
      have H := Lib.hid h1
      have H2 := Lib.hid h2
      clear h1 h2
      go_enter Tryd.func20, Tryd.ntmps20
      go_wp2
      go_ret
      exact ⟨ret_int (by rw [spaceN, if_neg H.out, if_pos H2.out]), rfl⟩
    · have b2 : ((s.size : Int) == 32) = false := beq_eq_false_iff_ne.2 (by omega)
      have H := Lib.hid h1
      have H2 := Lib.hid h2
      clear h1 h2
      go_enter Tryd.func20, Tryd.ntmps20
      go_wp2
      go_ret
      exact ⟨ret_int (by rw [spaceN, if_neg H.out, if_neg H2.out]), rfl⟩

theorem alike_ne {a b : ByteArray} {k : Nat} (ha : k < 2 * a.size) (hb : k < 2 * b.size) (h : ∀ j, j < k → M.dig (bl a) j = M.dig (bl b) j) (hne : M.dig (bl a) k ≠ M.dig (bl b) k) : M.alikeN (M.digs (bl a)) (M.digs (bl b)) = k := by
  refine M.alikeN_of (by rw [M.digs_length, bl_length]; omega) (by rw [M.digs_length, bl_length]; omega) (fun j hj => ?_) (.inr (.inr ?_))
  · rw [M.digs_getD _ _ (by rw [bl_length]; omega), M.digs_getD _ _ (by rw [bl_length]; omega)]; exact h j hj
  · rw [M.digs_getD _ _ (by rw [bl_length]; omega), M.digs_getD _ _ (by rw [bl_length]; omega)]; exact hne
theorem alike_all {a b : ByteArray} {k : Nat} (ha : k ≤ 2 * a.size) (hb : k ≤ 2 * b.size) (hk : k = 2 * a.size ∨ k = 2 * b.size) (h : ∀ j, j < k → M.dig (bl a) j = M.dig (bl b) j) : M.alikeN (M.digs (bl a)) (M.digs (bl b)) = k := by
  refine M.alikeN_of (by rw [M.digs_length, bl_length]; omega) (by rw [M.digs_length, bl_length]; omega) (fun j hj => ?_) ?_
  · rw [M.digs_getD _ _ (by rw [bl_length]; omega), M.digs_getD _ _ (by rw [bl_length]; omega)]; exact h j hj
  · rw [M.digs_length, M.digs_length, bl_length, bl_length]; omega

end Go.Proofs.YtmbbigmnliiadaaDoor
namespace Go.Proofs.YtmbbigmnliiadaaDoor
open Go.RowKit
set_option linter.unusedVariables false

/-- a slice that reads as these strings, nil let in -/
def Strs (w : World) (B : Nat) (A : Option Addr) (ss : List ByteArray) : Prop :=
  ∀ i, i < ss.length → ∃ ad, A = some ad ∧ ad.block < B ∧ w.cell? (ad.add i) = some (.string (ss.getD i ByteArray.empty))
theorem block_of_add (a : Addr) (n : Nat) : (a.add n).block = a.block := by unfold Addr.add; split <;> rfl
theorem Strs.below {w w' : World} {B : Nat} {A : Option Addr} {ss : List ByteArray} (h : Strs w B A ss) (hb : Below B w w') : Strs w' B A ss := fun i hi => by
  obtain ⟨ad, e, hlt, hc⟩ := h i hi
  exact ⟨ad, e, hlt, by rw [hb.cell (by rw [block_of_add]; exact hlt)]; exact hc⟩
theorem Strs.drawn {w w' : World} {B : Nat} {A : Option Addr} {ss : List ByteArray} (h : Strs w B A ss) (hb : Drawn w w') : Strs w' B A ss := h.below (hb.below _)

def bls (ss : List ByteArray) : List (List UInt8) := ss.map bl
theorem bls_getD (ss : List ByteArray) (i : Nat) (h : i < ss.length) : (bls ss).getD i [] = bl (ss.getD i ByteArray.empty) := by
  simp [bls, List.getD, List.getElem?_eq_getElem h]
theorem mem_bls {ss : List ByteArray} {i : Nat} (h : i < ss.length) : bl (ss.getD i ByteArray.empty) ∈ bls ss := by
  simp only [bls, List.getD, List.getElem?_eq_getElem h, Option.getD_some]
  exact List.mem_map_of_mem (List.getElem_mem h)
theorem of_mem_bls {ss : List ByteArray} {x : List UInt8} (h : x ∈ bls ss) : ∃ i, i < ss.length ∧ x = bl (ss.getD i ByteArray.empty) := by
  obtain ⟨y, hy, rfl⟩ := List.mem_map.1 h
  obtain ⟨i, hi, rfl⟩ := List.getElem_of_mem hy
  exact ⟨i, hi, by simp [List.getD, List.getElem?_eq_getElem hi]⟩
theorem bl_inj {a b : ByteArray} (h : bl a = bl b) : a = b := by rw [← str_bl a, ← str_bl b, h]

theorem toList_bl (a : ByteArray) : a.toList = bl a := ByteArray.toList_eq a
theorem str_beq {a b : ByteArray} (h : a = b) : (a.toList == b.toList) = true := by rw [h]; simp
theorem str_bne {a b : ByteArray} (h : a ≠ b) : (a.toList == b.toList) = false := by
  rw [toList_bl, toList_bl, beq_eq_false_iff_ne]
  exact fun e => h (bl_inj e)

/-- what the loop of Find knows behind k names -/
def Found (ss : List ByteArray) (s : List UInt8) (k : Nat) (f : Int) : Prop :=
  (f = -1 ∧ ∀ j, j < k → M.begB (bl (ss.getD j ByteArray.empty)) s = false) ∨
  ∃ m : Nat, f = m ∧ m < k ∧ M.begB (bl (ss.getD m ByteArray.empty)) s = true ∧ ∀ j, j < k → M.begB (bl (ss.getD j ByteArray.empty)) s = true → ss.getD j ByteArray.empty = ss.getD m ByteArray.empty

section
variable {ss : List ByteArray} {s : List UInt8} {k m : Nat} {f : Int}
theorem found_skip (h : Found ss s k f) (hb : M.begB (bl (ss.getD k ByteArray.empty)) s = false) : Found ss s (k + 1) f := by
  rcases h with ⟨rfl, hn⟩ | ⟨m, rfl, hm, hbm, ha⟩
  · refine .inl ⟨rfl, fun j hj => ?_⟩
    by_cases e : j = k
    · subst e; exact hb
    · exact hn j (by omega)
  · refine .inr ⟨m, rfl, by omega, hbm, fun j hj hbj => ?_⟩
    by_cases e : j = k
    · subst e; rw [hb] at hbj; cases hbj
    · exact ha j (by omega) hbj
theorem found_first (hn : ∀ j, j < k → M.begB (bl (ss.getD j ByteArray.empty)) s = false) (hb : M.begB (bl (ss.getD k ByteArray.empty)) s = true) : Found ss s (k + 1) k := by
  refine .inr ⟨k, rfl, by omega, hb, fun j hj hbj => ?_⟩
  by_cases e : j = k
  · subst e; rfl
  · rw [hn j (by omega)] at hbj; cases hbj
theorem found_again (hb : M.begB (bl (ss.getD k ByteArray.empty)) s = true) (he : ss.getD k ByteArray.empty = ss.getD m ByteArray.empty)
    (ha : ∀ j, j < k → M.begB (bl (ss.getD j ByteArray.empty)) s = true → ss.getD j ByteArray.empty = ss.getD m ByteArray.empty) : Found ss s (k + 1) k := by
  refine .inr ⟨k, rfl, by omega, hb, fun j hj hbj => ?_⟩
  by_cases e : j = k
  · subst e; rfl
  · rw [he]; exact ha j (by omega) hbj
theorem found_many (hs : M.shortC s = 0) (hk : k < ss.length) (hb : M.begB (bl (ss.getD k ByteArray.empty)) s = true) (hm : m < ss.length) (hbm : M.begB (bl (ss.getD m ByteArray.empty)) s = true)
    (hne : ss.getD k ByteArray.empty ≠ ss.getD m ByteArray.empty) : M.findR (bls ss) s = ([], 11) :=
  M.findR_many hs (mem_bls hk) hb (mem_bls hm) hbm (fun e => hne (bl_inj e))
theorem found_none (hs : M.shortC s = 0) (hn : ∀ j, j < ss.length → M.begB (bl (ss.getD j ByteArray.empty)) s = false) : M.findR (bls ss) s = ([], 5) :=
  M.findR_none hs (fun x hx => by
    obtain ⟨i, hi, rfl⟩ := of_mem_bls hx
    exact hn i hi)
theorem found_one (hs : M.shortC s = 0) (hm : m < ss.length) (hb : M.begB (bl (ss.getD m ByteArray.empty)) s = true)
    (ha : ∀ j, j < ss.length → M.begB (bl (ss.getD j ByteArray.empty)) s = true → ss.getD j ByteArray.empty = ss.getD m ByteArray.empty) : M.findR (bls ss) s = (bl (ss.getD m ByteArray.empty), 0) :=
  M.findR_one hs (mem_bls hm) hb (fun y hy hby => by
    obtain ⟨i, hi, rfl⟩ := of_mem_bls hy
    rw [ha i hi hby])
end

theorem ret_find {a b : ByteArray} {x y : Int} (h : a = b) (k : x = y) : Ending.returned (.tuple #[.string a, .int .i64 x]) = .returned (.tuple #[.string b, .int .i64 y]) := by rw [h, k]

end Go.Proofs.YtmbbigmnliiadaaDoor
namespace Go.Proofs.YtmbbigmnliiadaaDoor
open Go.RowKit
set_option linter.unusedVariables false

/-- what few says: so few names, so short ones -/
def FewPost (ss : List ByteArray) (w : World) (e : Ending) (w' : World) : Prop :=
  ∃ r : Bool, e = .returned (.bool r) ∧ w = w' ∧ (r = true → ss.length ≤ 200 ∧ ∀ i, i < ss.length → (ss.getD i ByteArray.empty).size ≤ 5000)

theorem digits_one (w : World) : Calls Tryd.prog 26 #[.string { data := #[171, 192] }] w fun e w' => e = .returned (.string { data := #[97, 98, 99, 48] }) ∧ Below w.heap.size w w' := by
  have h := Digits_any { data := #[171, 192] } w (by decide)
  rwa [show str (M.digs (bl { data := #[171, 192] })) = { data := #[97, 98, 99, 48] } by decide] at h
theorem size_one (w : World) : Calls Tryd.prog 29 #[.int .i64 2] w fun e w' => e = .returned (.int .i64 32) ∧ w = w' := by
  have h := Size_any 2 w
  rwa [if_neg (by decide), if_pos rfl] at h

theorem cell_of_blk {w : World} {g i : Nat} {cs : Array Value} {t : TypeId} {v : Value} (h : w.heap[g]? = some (.cells cs t (0, 0))) (hv : cs[i]? = some v) : w.cell? ⟨g, i, none⟩ = some v := by
  simp [World.cell?, h, hv]

end Go.Proofs.YtmbbigmnliiadaaDoor
namespace Go.Proofs.YtmbbigmnliiadaaDoor
open Go.RowKit Go.WideShapes Go.ChangeShapes

section
variable {H : Type} {enc : TypeId × Value → H} {P : Program}
theorem trodAll_below (hl : laidOutB P = true) {W W' : World} (hb : Below W.heap.size W W') : ∀ {ts : List TypeId} {vs : List Value} {ds : List (DataW H)} {ps : List MemPlace},
    (∀ t ∈ ts, P.readableRec t = true ∧ t < P.types.size) → DataW.TrodAll enc P W 0 (fun _ => true) true ts vs ds ps → (∀ x ∈ ps, x.block < W.heap.size) →
    DataW.TrodAll enc P W' 0 (fun b => decide (b < W.heap.size)) true ts vs ds ps
  | [], _, _, _, _, h, _ => by
    obtain ⟨rfl, rfl, rfl⟩ := trodAll_nil h
    exact trodAll_mk0
  | t :: ts, _, _, _, hr, h, hlt => by
    obtain ⟨v, vs1, d, ds1, a, b, rfl, rfl, rfl, h1, h2⟩ := trodAll_cons h
    exact trodAll_cons_mk (Below.trod hl (hr t (by simp)).1 (hr t (by simp)).2 h1 hb (fun x hx => hlt x (by simp [hx])))
      (trodAll_below hl hb (fun t' ht' => hr t' (by simp [ht'])) h2 (fun x hx => hlt x (by simp [hx])))

/-- a law's row: true, and each argument reads as it did -/
theorem law_post {f : Func} {s : ChangeSpec} {apart fresh handsOn : Bool} {W W' : World} {args : Array Value} {ds gs : List (DataW H)} {before : List MemPlace} {tb : TypeId}
    (hl : laidOutB P = true) (hts : (f.params.toList.all fun t => P.readableRec t && decide (t < P.types.size)) = true) (hrt : f.resultTypes = #[tb]) (htb : P.underlying tb = some .bool)
    (hvars : s.vars = []) (hfn : s.fn H (ds ++ gs) = { results := [.lit (.bool true)], args := ds })
    (hW : DataW.Whole enc P f.params.toList s.vars apart W args.toList ds gs before) (hb : Below W.heap.size W W') :
    s.post enc P f apart fresh handsOn false W args (.bool true) W' := by
  have hW' := hW
  obtain ⟨p, q, hA, hV, hps, hz, hn⟩ := hW'
  rw [hvars] at hV
  obtain ⟨rfl, rfl⟩ := trodVars_none hV
  have hlt : ∀ x ∈ p, x.block < W.heap.size := fun x hx => hW.lt x (by rw [hps]; simp [hx])
  refine ⟨ds, [], before, [], p, [], hW, ?_, ?_, ?_, World.keptBut_mono (fun x hx => ⟨hx, ?_⟩) (hb.frame (· ∈ before)), fun h => by cases h⟩
  · rw [hfn, hrt]
    exact trodAll_cons_mk (shut_bool htb _) trodAll_mk0
  · rw [hfn]
    exact trodAll_below hl hb (fun t ht => by simpa using List.all_eq_true.1 hts t ht) hA hlt
  · rw [hfn, hvars]
    exact rfl
  · rw [hps] at hx
    simp at hx
    exact .inr (.inl hx)
end

theorem bl_take (s : ByteArray) (c : Nat) : bl (s.extract 0 c) = (bl s).take c := by simp [bl]
theorem take_size (s : ByteArray) (c : Nat) : (s.extract 0 c).size ≤ s.size := by rw [ByteArray.size_extract]; omega

theorem bytesLess_eq : ∀ (x y : List UInt8), Op.bytesLess x y = decide (x < y)
  | [], [] => by simp [Op.bytesLess]
  | _ :: _, [] => by simp [Op.bytesLess]
  | [], _ :: _ => by simp [Op.bytesLess]
  | a :: x, b :: y => by
    rw [Op.bytesLess, bytesLess_eq x y, Bool.eq_iff_iff]
    simp [List.cons_lt_cons_iff]

theorem bl_append (a b : ByteArray) : bl (a ++ b) = bl a ++ bl b := by simp [bl]

theorem Tryd.cells9 : Tryd.prog.cellsOf 9 = 1 := by kernel_rfl
set_option maxRecDepth 100000 in
/-- an argument that is a slice of strings -/
theorem open_strs_arg {H : Type} {enc : TypeId × Value → H} {W : World} {base : Nat} {v : Value} {d : DataW H} {ps : List MemPlace} (hok : Value.okWide Tryd.prog W .any base 62 v)
    (h : DataW.Trod enc Tryd.prog W 0 (fun _ => true) true 62 v d ps) : ∃ (A : Option Addr) (ss : List ByteArray) (c : Nat), v = .slice A ss.length c ∧ Strs W W.heap.size A ss := by
  obtain ⟨a0, len, cap, rfl⟩ := okWide_slice Tryd.underlying62 hok
  obtain ⟨fuel, hf⟩ := h
  rcases open_strings Tryd.underlying62 Tryd.underlying9 Tryd.cells9 hf with ⟨hcs, hx⟩ | ⟨a, len', cap', ss, hcs, _, hl, hm, hz, hx, hcell, hws⟩
  · simp [Value.cells] at hcs
    obtain ⟨rfl, rfl, rfl⟩ := hcs
    exact ⟨none, [], 0, rfl, fun i hi => by cases hi⟩
  · simp [Value.cells] at hcs
    obtain ⟨rfl, rfl, rfl⟩ := hcs
    simp only [if_true] at hz
    have hlen : (ss.take len).length = len := by rw [List.length_take]; omega
    refine ⟨some a, ss.take len, cap, by rw [hlen], fun i hi => ?_⟩
    rw [hlen] at hi
    have hc := hcell i (by omega)
    refine ⟨a, rfl, ?_, ?_⟩
    · have := World.block_lt_of_cell? _ _ hc
      rwa [block_of_add] at this
    · rw [hc]
      simp [List.getD, hi]

theorem Tryd.laid : laidOutB Tryd.prog = true := by kernel_rfl
end Go.Proofs.YtmbbigmnliiadaaDoor
namespace Go.Proofs.YtmbbigmnliiadaaDoor
open Go.RowKit
set_option linter.unusedVariables false

/-- a digit's worth; 16: it is none -/
def valI (c : UInt8) : Int := if M.worthB c = true then (M.worthV c : Int) else 16
theorem valI_at {c : UInt8} {k : Nat} (hk : k < 16) (h : M.hexc k = c) : valI c = k := by
  subst h
  rw [valI, if_pos (M.worthB_hexc hk), M.worthV_hexc hk]
theorem valI_no {c : UInt8} (h : ∀ j, j < 16 → M.hexc j ≠ c) : valI c = 16 := by
  rw [valI, if_neg]
  intro hb
  exact h _ (M.worthV_lt c) (M.hexc_worthV hb)

theorem valI_yes {c : UInt8} (h : M.worthB c = true) : valI c = M.worthV c := by rw [valI, if_pos h]
theorem valI_none {c : UInt8} (h : M.worthB c = false) : valI c = 16 := by rw [valI, if_neg (by simp [h])]

end Go.Proofs.YtmbbigmnliiadaaDoor
namespace Go.Proofs.YtmbbigmnliiadaaDoor
open Go.RowKit
set_option linter.unusedVariables false

/-- bytes as cells -/
def bcells (l : List UInt8) : List Value := l.map fun c => .int .u8 c.toNat
theorem bcells_length (l : List UInt8) : (bcells l).length = l.length := by simp [bcells]
theorem bcells_append (a b : List UInt8) : bcells (a ++ b) = bcells a ++ bcells b := by simp [bcells]

/-- a row of the call's own, as a text -/
theorem own_string {w : World} {base n : Nat} {v : Value} {l : List UInt8} (h : w.ownsRow base 5 1 v n (bcells l)) : (convert 41 9 v).run Tryd.prog w = .ok (.string (str l)) w := by
  have hl : l.length = n := by have := h.1; rw [bcells_length] at this; omega
  subst hl
  rcases h.2 with ⟨rfl, h0⟩ | ⟨g, cap, cur, rfl, _, hg, _⟩
  · have : l = [] := List.eq_nil_of_length_eq_zero h0
    subst this
    exact run_convert_bytes_nil w 41 5 Tryd.underlying41 Tryd.underlying5 0 0 9 Tryd.underlying9
  · rw [run_convert_bytes_arg w 41 5 Tryd.underlying41 Tryd.underlying5 g 0 l.length cap (l.map fun c => (c.toNat : Int)) (by simp) (fun i hi => by
      have hc := h.cells (g := g) rfl i (.int .u8 (l[i].toNat)) (by simp [bcells, List.getElem?_eq_getElem hi])
      have ha : (⟨g, 0, none⟩ : Addr).add i = ⟨g, 0 + i, none⟩ := by unfold Addr.add; split <;> simp_all
      rw [ha] at hc
      rw [hc]
      simp [List.getD, List.getElem?_eq_getElem hi]) 9 Tryd.underlying9]
    simp [strOfNums, str, Function.comp_def]

theorem own_drawn {w w' : World} {base e size n : Nat} {v : Value} {xs : List Value} (h : w.ownsRow base e size v n xs) (hd : Drawn w w') : w'.ownsRow base e size v n xs := by
  obtain ⟨m, rfl⟩ := hd
  exact h

theorem digs_snoc (s : ByteArray) (k : Nat) (h : k < s.size) : M.digs ((bl s).take (k + 1)) = M.digs ((bl s).take k) ++ [M.hexc (s[k].toNat / 16), M.hexc (s[k].toNat % 16)] := by
  have hl : k < (bl s).length := by rw [bl_length]; exact h
  rw [List.take_succ_eq_append_getElem hl, M.digs_append]
  rfl

theorem begins_beq (b s : ByteArray) (h : s.size ≤ 2 * b.size) : ((((str (M.digs (bl b))).extract 0 s.size).toList == s.toList)) = M.begB (bl b) (bl s) := by
  rw [toList_bl, toList_bl, bl_take, bl_str, Bool.eq_iff_iff, beq_iff_eq, M.begB, List.isPrefixOf_iff_prefix, List.prefix_iff_eq_take, bl_length]
  exact eq_comm

theorem byteAt_val (s : ByteArray) (k j : Nat) (h : j + 1 < s.size) : j = 2 * k → ((M.byteAt (bl s) k).toNat : Int) = 16 * (M.worthV s[j] : Int) + (M.worthV s[j + 1] : Int) := by
  rintro rfl
  have h0 := M.worthV_lt s[2 * k]
  have h1 := M.worthV_lt s[2 * k + 1]
  rw [M.byteAt, bl_getD s _ (by omega), bl_getD s _ h, UInt8.toNat_ofNat', Nat.mod_eq_of_lt (by omega)]
  omega
theorem good_iff (s : ByteArray) (k j : Nat) (h : j + 1 < s.size) : j = 2 * k → M.good (bl s) k = (M.worthB s[j] && M.worthB s[j + 1]) := by
  rintro rfl
  rw [M.good, bl_getD s _ (by omega), bl_getD s _ h]

end Go.Proofs.YtmbbigmnliiadaaDoor
