/-
  The contract of the document's Expand (layer 2): the eighty words of a block.
-/
import Derived.Test.YtpffolohkmokhaaShb
import Derived.Laws.Tables
import Derived.IntWalk
import Derived.BigRegion
import Derived.Laws.CopyOwn
namespace Go.Proofs.Ytpffolohkmokhaa.Hs
open Go.RowKit
set_option linter.unusedVariables false
attribute [local go_sem] t_and t_or t_xor t_not t_add t_sub t_add_wrap t_sub_wrap

/-- eighty words -/
def ws (l : List UInt32) : Array Value := ((List.range 80).map fun j => .int .u32 (tn (l.getD j 0))).toArray
theorem ws_size (l : List UInt32) : (ws l).size = 80 := by simp [ws]
theorem zv29 (w : World) : (zeroValue 31).run Try.prog w = .ok (.agg (ws [])) w := by kernel_rfl
theorem row_ws (w : World) (l : List UInt32) : (w.alloc (.cells (ws l) 31)).rowIs w.heap.size 31 80 (fun j => .int .u32 (tn (l.getD j 0))) := by
  have h := World.rowIs_alloc w (ws l) 31 (fun j => .int .u32 (tn (l.getD j 0))) (fun i hi => by rw [ws_size] at hi; simp [ws, hi])
  rwa [ws_size] at h
/-- a row of eighty words, its cells laid whole -/
theorem ws_row {w : World} {g : Nat} {l : List UInt32} (h : w.rowIs g 31 80 (fun j => .int .u32 (tn (l.getD j 0)))) : w.heap[g]? = some (.cells (ws l) 31 (0, 0)) := by
  obtain ⟨c, hb, hn, hc⟩ := h
  rw [hb]
  congr 2
  apply Array.ext_getElem?
  intro i
  by_cases hi : i < 80
  · rw [hc i hi]; simp [ws, hi]
  · rw [Array.getElem?_eq_none (by omega), Array.getElem?_eq_none (by rw [ws_size]; omega)]

namespace Sh
/-- a word, i of its four bytes told -/
def part (l : List UInt8) (t : Nat) : Nat → UInt32
  | 0 => 0
  | i + 1 => part l t i * 256 + byteOr l (4 * t + i)
theorem part_four (l : List UInt8) (t : Nat) : part l t 4 = word l t := by simp [part, word]
theorem wordsTo_length (l : List UInt8) (t : Nat) : (wordsTo l t).length = t := by
  induction t with
  | zero => rfl
  | succ t ih => simp [wordsTo, ih]
end Sh
theorem t_mul (x y : UInt32) : (tn x * tn y) % 4294967296 = tn (x * y) := by
  unfold tn
  rw [UInt32.toNat_mul]
  omega
theorem t_mul256 (x : UInt32) : (tn x * 256) % 4294967296 = tn (x * 256) := t_mul x 256
theorem getD_snoc (l : List UInt32) (x : UInt32) (t : Nat) (ht : l.length = t) (j : Nat) : (l ++ [x]).getD j 0 = if j = t then x else l.getD j 0 := by
  subst ht
  by_cases h : j = l.length
  · subst h; simp
  · rw [if_neg h]
    by_cases hlt : j < l.length
    · simp [List.getD, List.getElem?_append_left hlt]
    · rw [List.getD_eq_getElem?_getD, List.getElem?_eq_none (by simp; omega), List.getD_eq_getElem?_getD, List.getElem?_eq_none (by omega)]
/-- a word is put behind the t that are there, or in the place of the last -/
theorem row_put {w : World} {g t : Nat} {l : List UInt32} {x y : UInt32} (hl : l.length = t) (h : w.rowIs g 31 80 (fun j => .int .u32 (tn ((l ++ [x]).getD j 0)))) :
    (w.setCell ⟨g, t, none⟩ (.int .u32 (tn y))).rowIs g 31 80 (fun j => .int .u32 (tn ((l ++ [y]).getD j 0))) := by
  refine (h.set t _).congr fun j _ => ?_
  simp only [getD_snoc _ _ _ hl]
  split <;> rfl
theorem row_none {w : World} {g t : Nat} {l : List UInt32} (hl : l.length = t) (h : w.rowIs g 31 80 (fun j => .int .u32 (tn (l.getD j 0)))) :
    w.rowIs g 31 80 (fun j => .int .u32 (tn ((l ++ [0]).getD j 0))) :=
  h.congr fun j _ => by
    rw [getD_snoc _ _ _ hl]
    split
    · rename_i e; rw [List.getD_eq_getElem?_getD, List.getElem?_eq_none (by omega)]; rfl
    · rfl

theorem info29 : (Try.prog.info? 31).map (·.size) = some 80 := by kernel_rfl

/-- the state of Expand: the result's row is empty yet, the words' row holds l -/
structure Ex (w wr : World) (l : List UInt32) : Prop where
  below : Below w.heap.size w wr
  size : w.heap.size + 1 < wr.heap.size
  res : wr.rowIs w.heap.size 31 80 (fun j => .int .u32 (tn (([] : List UInt32).getD j 0)))
  row : wr.rowIs (w.heap.size + 1) 31 80 (fun j => .int .u32 (tn (l.getD j 0)))
section
variable {w wr : World} {l : List UInt32} {t : Nat} {x y : UInt32}
theorem Ex.start (w : World) : Ex w ((w.alloc (.cells (ws []) 31)).alloc (.cells (ws []) 31)) [] := by
  refine ⟨((Below.refl _ w).alloc (Nat.le_refl _) _).alloc (by simp) _, by simp, (row_ws w []).alloc _, ?_⟩
  have := row_ws (w.alloc (.cells (ws []) 31)) []
  simpa using this
theorem Ex.begin_ (h : Ex w wr l) (hl : l.length = t) : Ex w wr (l ++ [0]) := ⟨h.below, h.size, h.res, row_none hl h.row⟩
theorem Ex.put (h : Ex w wr (l ++ [x])) (hl : l.length = t) (y : UInt32) : Ex w (wr.setCell ⟨w.heap.size + 1, t, none⟩ (.int .u32 (tn y))) (l ++ [y]) :=
  ⟨h.below.setCell (Nat.le_succ _) _, by simpa using h.size, h.res.setOther (by simp) _, row_put hl h.row⟩
theorem Ex.drawn (h : Ex w wr l) (n : Nat) : Ex w (wr.drewN n) l := ⟨below_drewN h.below n, h.size, h.res, h.row⟩
theorem Ex.drew (h : Ex w wr l) : Ex w wr.drew l := ⟨h.below.drew, h.size, h.res, h.row⟩
theorem Ex.at_ (h : Ex w wr l) {j : Nat} (hj : j < 80) : wr.cell? ⟨w.heap.size + 1, j, none⟩ = some (.int .u32 (tn (l.getD j 0))) := h.row.cell hj
theorem Ex.cell (h : Ex w wr (l ++ [x])) (hl : l.length = t) (ht : t < 80) : wr.cell? ⟨w.heap.size + 1, t, none⟩ = some (.int .u32 (tn x)) := by
  rw [h.row.cell ht, getD_snoc _ _ _ hl, if_pos rfl]
end

theorem byte_in (s : ByteArray) (k : Nat) (h : k < s.size) : ((s[k].toNat : Int)) = tn (Sh.byteOr s.data.toList k) := by
  have h256 : s[k].toNat < 256 := s[k].toNat_lt
  rw [Sh.byteOr, List.getD_eq_getElem?_getD, List.getElem?_eq_getElem (by simpa using h), Option.getD_some, tn_ofNat (by have : (s.data.toList[k]'(by simpa using h)).toNat < 256 := UInt8.toNat_lt _; omega)]
  rfl
theorem byte_out (s : ByteArray) (k : Nat) (h : s.size ≤ k) : Sh.byteOr s.data.toList k = 0 := by
  rw [Sh.byteOr, List.getD_eq_getElem?_getD, List.getElem?_eq_none (by simpa using h)]
  rfl
theorem wordsTo_low (l : List UInt8) (t : Nat) (h : t < 16) : Sh.wordsTo l (t + 1) = Sh.wordsTo l t ++ [Sh.part l t 4] := by
  rw [Sh.wordsTo, if_pos h, Sh.part_four]
theorem wordsTo_high (l : List UInt8) (t : Nat) (h : ¬ t < 16) : Sh.wordsTo l (t + 1) = Sh.wordsTo l t ++ [Sh.rot ((Sh.wordsTo l t).getD (t - 3) 0 ^^^ (Sh.wordsTo l t).getD (t - 8) 0 ^^^ (Sh.wordsTo l t).getD (t - 14) 0 ^^^ (Sh.wordsTo l t).getD (t - 16) 0) 1] := by
  rw [Sh.wordsTo, if_neg h]

set_option maxHeartbeats 2000000 in
set_option maxRecDepth 100000 in
theorem rexpand_any (s : ByteArray) (w : World) (hs : s.size ≤ 100000) :
    Calls Try.prog 32 #[.string s] w fun e w' => e = .returned (.agg (ws (Sh.words s.data.toList))) ∧ Below w.heap.size w w' := by
  have hz := zv29
  have hst := Ex.start w
  have HST := Lib.hid hst
  clear hst
  go_enter Try.func32, Try.ntmps32
  go_wp2
  clear hz
  go_loopg [4] 16 (fun g i wr => ∃ t : Nat, t ≤ 16 ∧ g = 16 - t ∧ i = .int .i64 t ∧ Ex w wr (Sh.wordsTo s.data.toList t))
  case atStart => exact ⟨0, Nat.zero_le _, rfl, rfl, HST.out⟩
  case round =>
    obtain ⟨t, ht, rfl, rfl, hex⟩ := hrel
    clear HST
    by_cases hlt : t < 16
    · have h1 : (t : Int) < 16 := by omega
      have hlen := Sh.wordsTo_length s.data.toList t
      have hnx := wordsTo_low s.data.toList t hlt
      generalize Sh.wordsTo s.data.toList t = L at *
      have HL := Lib.hid hlen
      have HNX := Lib.hid hnx
      have HE := Lib.hid (hex.begin_ hlen)
      clear hlen hnx hex
      go_wp2
      go_loopg [5] 4 (fun g i wx => ∃ i' : Nat, i' ≤ 4 ∧ g = 4 - i' ∧ i = .int .i64 i' ∧ Ex w wx (L ++ [Sh.part s.data.toList t i']))
      case atStart => exact ⟨0, Nat.zero_le _, rfl, rfl, HE.out⟩
      case round =>
        obtain ⟨i, hi, rfl, rfl, hex⟩ := hrel
        clear HE
        by_cases hil : i < 4
        · have h2 : (i : Int) < 4 := by omega
          have hc := hex.cell HL.out (by omega)
          have hf := hex.row.frozen t
          have hp1 := hex.put HL.out (Sh.part s.data.toList t i * 256)
          have hc2 := hp1.cell HL.out (by omega)
          have hf2 := hp1.row.frozen t
          have hm := t_mul256 (Sh.part s.data.toList t i)
          have hpt : Sh.part s.data.toList t (i + 1) = Sh.part s.data.toList t i * 256 + Sh.byteOr s.data.toList (4 * t + i) := rfl
          generalize Sh.part s.data.toList t i = X at *
          have HP1 := Lib.hid hp1
          have HPT := Lib.hid hpt
          clear hp1 hpt hex
          by_cases hin : 4 * t + i < s.size
          · have h3 : 4 * (t : Int) + i < s.size := by omega
            have hby := byte_in s (4 * t + i) hin
            have h4 : (0 : Int) ≤ 4 * (t : Int) + i := by omega
            have h5 : (4 * (t : Int) + i).toNat = 4 * t + i := by omega
            have w5 : IntKind.i64.wrap (4 * (t : Int)) = 4 * (t : Int) := IntWalk.i64_in _ (by omega)
            have w6 : IntKind.i64.wrap (4 * (t : Int) + i) = 4 * (t : Int) + i := IntWalk.i64_in _ (by omega)
            go_wp2_with fail
            generalize wr.setCell ⟨w.heap.size + 1, t, none⟩ (.int .u32 (tn (X * 256))) = wy at *
            go_region
            go_wp2
            go_roundg (4 - (i + 1))
            case rel => exact ⟨i + 1, by omega, rfl, by go_num, by rw [HPT.out]; exact (HP1.out.put HL.out _).drew⟩
            case measure => omega
          · have h3 : ¬ 4 * (t : Int) + i < s.size := by omega
            have hby := byte_out s (4 * t + i) (by omega)
            have HBY := Lib.hid hby
            clear hby
            go_wp2
            go_roundg (4 - (i + 1))
            case rel => exact ⟨i + 1, by omega, rfl, by go_num, by rw [HPT.out, HBY.out, UInt32.add_zero]; exact HP1.out⟩
            case measure => omega
        · obtain rfl : i = 4 := by omega
          go_wp2
          go_roundg (16 - (t + 1))
          case rel => exact ⟨t + 1, by omega, rfl, by go_num, by rw [HNX.out]; exact hex⟩
          case measure => omega
    · obtain rfl : t = 16 := by omega
      have HE := Lib.hid hex
      clear hex
      go_wp2
      go_loopg [6] 64 (fun g i wx => ∃ t : Nat, 16 ≤ t ∧ t ≤ 80 ∧ g = 80 - t ∧ i = .int .i64 t ∧ Ex w wx (Sh.wordsTo s.data.toList t))
      case atStart => exact ⟨16, Nat.le_refl _, by omega, rfl, rfl, HE.out⟩
      case round =>
        obtain ⟨t, ht16, ht80, rfl, rfl, hex⟩ := hrel
        clear HE
        by_cases hlt : t < 80
        · have h1 : (t : Int) < 80 := by omega
          have hlen := Sh.wordsTo_length s.data.toList t
          have hnx := wordsTo_high s.data.toList t (by omega)
          generalize Sh.wordsTo s.data.toList t = L at *
          have HL := Lib.hid hlen
          have HNX := Lib.hid hnx
          clear hlen hnx
          have a3 : (0 : Int) ≤ (t : Int) - 3 := by omega
          have b3 : (3 : Int) ≤ (t : Int) := by omega
          have d3 : (t : Int) - 3 < 80 := by omega
          have a8 : (0 : Int) ≤ (t : Int) - 8 := by omega
          have b8 : (8 : Int) ≤ (t : Int) := by omega
          have d8 : (t : Int) - 8 < 80 := by omega
          have a14 : (0 : Int) ≤ (t : Int) - 14 := by omega
          have b14 : (14 : Int) ≤ (t : Int) := by omega
          have d14 : (t : Int) - 14 < 80 := by omega
          have a16 : (0 : Int) ≤ (t : Int) - 16 := by omega
          have b16 : (16 : Int) ≤ (t : Int) := by omega
          have d16 : (t : Int) - 16 < 80 := by omega
          have n3 : ((t : Int) - 3).toNat = t - 3 := by omega
          have n8 : ((t : Int) - 8).toNat = t - 8 := by omega
          have n14 : ((t : Int) - 14).toNat = t - 14 := by omega
          have n16 : ((t : Int) - 16).toNat = t - 16 := by omega
          have w3 : IntKind.i64.wrap ((t : Int) - 3) = (t : Int) - 3 := IntWalk.i64_in _ (by omega)
          have w8 : IntKind.i64.wrap ((t : Int) - 8) = (t : Int) - 8 := IntWalk.i64_in _ (by omega)
          have w14 : IntKind.i64.wrap ((t : Int) - 14) = (t : Int) - 14 := IntWalk.i64_in _ (by omega)
          have w16 : IntKind.i64.wrap ((t : Int) - 16) = (t : Int) - 16 := IntWalk.i64_in _ (by omega)
          have c3 := hex.at_ (j := t - 3) (by omega)
          have c8 := hex.at_ (j := t - 8) (by omega)
          have c14 := hex.at_ (j := t - 14) (by omega)
          have c16 := hex.at_ (j := t - 16) (by omega)
          have ct := (hex.begin_ HL.out).cell HL.out hlt
          have cf := hex.row.frozen t
          have HX := Lib.hid (hex.begin_ HL.out)
          clear hex
          generalize L.getD (t - 3) 0 = x3 at *
          generalize L.getD (t - 8) 0 = x8 at *
          generalize L.getD (t - 14) 0 = x14 at *
          generalize L.getD (t - 16) 0 = x16 at *
          have hk3 : ∀ v, (wr.setCell ⟨w.heap.size + 1, t, none⟩ v).cell? ⟨w.heap.size + 1, t - 3, none⟩ = some (.int .u32 (tn x3)) := fun v => by rw [World.cell?_setCell_other _ _ _ _ (fun e => by injection e with _ e; omega)]; exact c3
          have hk8 : ∀ v, (wr.setCell ⟨w.heap.size + 1, t, none⟩ v).cell? ⟨w.heap.size + 1, t - 8, none⟩ = some (.int .u32 (tn x8)) := fun v => by rw [World.cell?_setCell_other _ _ _ _ (fun e => by injection e with _ e; omega)]; exact c8
          have hk14 : ∀ v, (wr.setCell ⟨w.heap.size + 1, t, none⟩ v).cell? ⟨w.heap.size + 1, t - 14, none⟩ = some (.int .u32 (tn x14)) := fun v => by rw [World.cell?_setCell_other _ _ _ _ (fun e => by injection e with _ e; omega)]; exact c14
          have hk16 : ∀ v, (wr.setCell ⟨w.heap.size + 1, t, none⟩ v).cell? ⟨w.heap.size + 1, t - 16, none⟩ = some (.int .u32 (tn x16)) := fun v => by rw [World.cell?_setCell_other _ _ _ _ (fun e => by injection e with _ e; omega)]; exact c16
          go_wp2_with fail
          go_region_held3 (fun w' => w'.cell? ⟨w.heap.size + 1, t - 3, none⟩ = some (.int .u32 (tn x3)) ∧ w'.cell? ⟨w.heap.size + 1, t - 8, none⟩ = some (.int .u32 (tn x8)) ∧ w'.cell? ⟨w.heap.size + 1, t - 14, none⟩ = some (.int .u32 (tn x14)) ∧ w'.cell? ⟨w.heap.size + 1, t - 16, none⟩ = some (.int .u32 (tn x16))) (go_keep)
            (first | (go_at_call 23; refine (rot_any _ 1 _ (by omega) (by omega)).mono ?_; rintro e w' ⟨rfl, rfl⟩))
          go_wp2
          go_roundg (80 - (t + 1))
          case rel => exact ⟨t + 1, by omega, by omega, rfl, by go_num, by rw [HNX.out]; exact (HX.out.put HL.out _).drew⟩
          case measure => omega
        · obtain rfl : t = 80 := by omega
          have hw : wr.heap[w.heap.size + 1]? = some (.cells (ws (Sh.words s.data.toList)) 31 (0, 0)) := ws_row hex.row
          have hr : wr.heap[w.heap.size]? = some (.cells (ws []) 31 (0, 0)) := ws_row hex.res
          have hbl := hex.below
          clear hex
          generalize hW : ws (Sh.words s.data.toList) = W at *
          have hWs : W.size = 80 := by rw [← hW]; exact ws_size _
          have hW1 : W.all (·.oneCell') = true := by rw [← hW]; simp [ws, Value.oneCell']
          have HW := Lib.hid hW
          have HS := Lib.hid hWs
          clear hW hWs
          have i29 : (Try.prog.info? 31).map (·.size) = some W.size := by rw [HS.out]; exact info29
          have HI := Lib.hid i29
          have HR := Lib.hid hr
          have HH := Lib.hid hw
          clear i29 hr hw
          go_wp2_with (first
            | (with_reducible refine wpList_load_row rfl 31 (.tmp 3) rfl (w.heap.size + 1) rfl 31 W (0, 0) _ HH.out Try.underlying31 rfl HI.out ?_)
            | (with_reducible refine wpList_store_row rfl 31 (.tmp 2) (.tmp 67) rfl w.heap.size W rfl rfl 31 (ws []) HR.out HI.out (by rw [ws_size, HS.out]) hW1 ?_))
          refine bodyPost_ret (results_cell_row Try.results32 _ _ w.heap.size 31 W (0, 0) _ rfl (setRow_heap _ _ _ _ _ _ HR.out) Try.underlying31 rfl HI.out) rfl ⟨by rw [HW.out], ?_⟩
          exact below_setRow hbl (Nat.le_refl _) _
end Go.Proofs.Ytpffolohkmokhaa.Hs
