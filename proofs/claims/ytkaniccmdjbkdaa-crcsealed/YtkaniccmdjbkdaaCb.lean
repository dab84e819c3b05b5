/-
  Contracts of the program's table and add (package crc).
-/
import Derived.Test.YtkaniccmdjbkdaaRows
import Derived.Test.YtkaniccmdjbkdaaCa
import Derived.Test.YtkaniccmdjbkdaaSha
import Derived.Test.YtkaniccmdjbkdaaP
import Derived.Laws.Tables
import Derived.IntWalk
import Derived.BigRegion
import Derived.Laws.CopyOwn
import Derived.StillTailTactics
namespace Go.Proofs.Ytkaniccmdjbkdaa.Hc
open Go.RowKit Hs
set_option linter.unusedVariables false
attribute [local go_sem] t_and t_or t_xor t_not t_add t_sub t_add_wrap t_sub_wrap

/-- the table, k of its words made -/
def tb (k j : Nat) : UInt32 := if j < k then Cr.tab j else 0
def tw (k : Nat) : Array Value := ((List.range 256).map fun j => .int .u32 (tn (tb k j))).toArray
theorem tw_size (k : Nat) : (tw k).size = 256 := by simp [tw]
theorem tw_one (k : Nat) : (tw k).all (·.oneCell') = true := by simp [tw, Value.oneCell']
theorem tz (w : World) : (zeroValue 38).run Try.prog w = .ok (.agg (tw 0)) w := by kernel_rfl
theorem row_tw (w : World) (k : Nat) : (w.alloc (.cells (tw k) 38)).rowIs w.heap.size 38 256 (fun j => .int .u32 (tn (tb k j))) := by
  have h := World.rowIs_alloc w (tw k) 38 (fun j => .int .u32 (tn (tb k j))) (fun i hi => by rw [tw_size] at hi; simp [tw, hi])
  rwa [tw_size] at h
theorem tw_row {w : World} {g k : Nat} (h : w.rowIs g 38 256 (fun j => .int .u32 (tn (tb k j)))) : w.heap[g]? = some (.cells (tw k) 38 (0, 0)) := by
  obtain ⟨c, hb, hn, hc⟩ := h
  rw [hb]
  congr 2
  apply Array.ext_getElem?
  intro i
  by_cases hi : i < 256
  · rw [hc i hi]; simp [tw, hi]
  · rw [Array.getElem?_eq_none (by omega), Array.getElem?_eq_none (by rw [tw_size]; omega)]
theorem info_tw (k : Nat) : (Try.prog.info? 38).map (·.size) = some (tw k).size := by
  have : (Try.prog.info? 38).map (·.size) = some 256 := by kernel_rfl
  rw [this, tw_size]
theorem tw_cell {w : World} {g : Nat} (h : w.heap[g]? = some (.cells (tw 256) 38 (0, 0))) (j : Nat) (hj : j < 256) : w.cell? ⟨g, j, none⟩ = some (.int .u32 (tn (Cr.tab j))) := by
  rw [cell_of_row w g j _ _ _ h]; simp [tw, hj, tb]

/-- the state of table: the result's row is empty yet, the other one has k words -/
structure Tb (w wr : World) (k : Nat) : Prop where
  below : Below w.heap.size w wr
  size : w.heap.size + 1 < wr.heap.size
  res : wr.rowIs w.heap.size 38 256 (fun j => .int .u32 (tn (tb 0 j)))
  row : wr.rowIs (w.heap.size + 1) 38 256 (fun j => .int .u32 (tn (tb k j)))
theorem Tb.start (w : World) : Tb w ((w.alloc (.cells (tw 0) 38)).alloc (.cells (tw 0) 38)) 0 := by
  refine ⟨((Below.refl _ w).alloc (Nat.le_refl _) _).alloc (by simp) _, by simp, (row_tw w 0).alloc _, ?_⟩
  have := row_tw (w.alloc (.cells (tw 0) 38)) 0
  simpa using this
theorem Tb.put {w wr : World} {k : Nat} (h : Tb w wr k) {y : UInt32} (hy : y = Cr.tab k) : Tb w (wr.setCell ⟨w.heap.size + 1, k, none⟩ (.int .u32 (tn y))) (k + 1) := by
  subst hy
  refine ⟨h.below.setCell (Nat.le_succ _) _, by simpa using h.size, h.res.setOther (by simp) _, (h.row.set k _).congr fun j _ => ?_⟩
  unfold tb
  by_cases e : j = k
  · subst e; rw [if_pos rfl, if_pos (by omega)]
  · rw [if_neg e]
    by_cases hlt : j < k
    · rw [if_pos hlt, if_pos (by omega)]
    · rw [if_neg hlt, if_neg (by omega)]
theorem Tb.drew {w wr : World} {k : Nat} (h : Tb w wr k) : Tb w wr.drew k := ⟨h.below.drew, h.size, h.res, h.row⟩

theorem t_and1 (x : UInt32) : bits .and .u32 (tn x) 1 = tn (x &&& 1) := t_and x 1
theorem t_half (x : UInt32) : tn x / (2 : Int) = tn (x >>> 1) := t_shr x 1 (by omega)
theorem t_eighth (x : UInt32) : tn x / (256 : Int) = tn (x >>> 8) := t_shr x 8 (by omega)
theorem t_mulw (x y : UInt32) : (tn x * tn y) % 4294967296 = tn (x * y) := by
  unfold tn
  rw [UInt32.toNat_mul]
  omega
theorem t_mulm (x : UInt32) : (tn x * 3988292384) % 4294967296 = tn (x * 3988292384) := t_mulw x 3988292384

set_option maxHeartbeats 2000000 in
set_option maxRecDepth 100000 in
theorem table_any (w : World) : Calls Try.prog 14 #[] w fun e w' => e = .returned (.agg (tw 256)) ∧ Below w.heap.size w w' := by
  have hz := tz
  have HST := Lib.hid (Tb.start w)
  go_enter Try.func14, Try.ntmps14
  go_wp2
  clear hz
  go_loopg [5] 256 (fun g i wr => ∃ t : Nat, t ≤ 256 ∧ g = 256 - t ∧ i = .int .i64 t ∧ Tb w wr t)
  case atStart => exact ⟨0, Nat.zero_le _, rfl, rfl, HST.out⟩
  case round =>
    obtain ⟨t, ht, rfl, rfl, hex⟩ := hrel
    clear HST
    by_cases hlt : t < 256
    · have h1 : (t : Int) < 256 := by omega
      have hw : (t : Int) = tn (Cr.bitsTo (UInt32.ofNat t) 0) := by rw [Cr.bitsTo, tn_ofNat (by omega)]
      have HW := Lib.hid hw
      have HE := Lib.hid hex
      have htab : Cr.tab t = Cr.bitsTo (UInt32.ofNat t) 8 := rfl
      have HT := Lib.hid htab
      clear hw hex htab
      generalize UInt32.ofNat t = X at *
      go_wp2
      go_loopg [10, 3] 8 (fun g i v wx => ∃ k : Nat, k ≤ 8 ∧ g = 8 - k ∧ i = .int .i64 k ∧ v = .int .u32 (tn (Cr.bitsTo X k)) ∧ Tb w wx t)
      case atStart => exact ⟨0, Nat.zero_le _, rfl, rfl, by rw [← HW.out], HE.out⟩
      case round =>
        obtain ⟨k, hk, rfl, rfl, rfl, hex⟩ := hrel
        clear HE HW
        by_cases hil : k < 8
        · have h2 : (k : Int) < 8 := by omega
          have hnx : Cr.bitsTo X (k + 1) = Cr.bit (Cr.bitsTo X k) := rfl
          generalize Cr.bitsTo X k = Y at *
          have HN := Lib.hid hnx
          have HE := Lib.hid hex
          have a1 := t_and1 Y
          have a3 := t_mulm (Y &&& 1)
          clear hnx hex
          go_wp2
          go_roundg (8 - (k + 1))
          case rel => exact ⟨k + 1, by omega, rfl, by go_num, by rw [HN.out, Cr.bit, ← t_xor, ← t_half], HE.out⟩
          case measure => omega
        · obtain rfl : k = 8 := by omega
          have hc := hex.row.cell hlt
          have hf := hex.row.frozen t
          have HE := Lib.hid hex
          clear hex
          go_wp2
          go_roundg (256 - (t + 1))
          case rel => exact ⟨t + 1, by omega, rfl, by go_num, HE.out.put HT.out.symm⟩
          case measure => omega
    · obtain rfl : t = 256 := by omega
      have HH := Lib.hid (tw_row hex.row)
      have HR := Lib.hid (tw_row hex.res)
      have HB := Lib.hid hex.below
      clear hex
      go_wp2_with (first
        | (with_reducible refine wpList_load_row rfl 38 (.tmp 1) rfl (w.heap.size + 1) rfl 38 (tw 256) (0, 0) _ HH.out Try.underlying38 rfl (info_tw 256) ?_)
        | (with_reducible refine wpList_store_row rfl 38 (.tmp 0) (.tmp 24) rfl w.heap.size (tw 256) rfl rfl 38 (tw 0) HR.out (info_tw 256) (by rw [tw_size, tw_size]) (tw_one 256) ?_))
      refine bodyPost_ret (results_cell_row Try.results14 _ _ w.heap.size 38 (tw 256) (0, 0) _ rfl (setRow_heap _ _ _ _ _ _ HR.out) Try.underlying38 rfl (info_tw 256)) rfl ⟨rfl, ?_⟩
      exact below_setRow HB.out (Nat.le_refl _) _

theorem tn_byte (x : UInt32) : tn x % 256 = ((x.toNat % 256 : Nat) : Int) := by unfold tn; omega
theorem byte_xor (x : UInt32) (c : UInt8) : bits .xor .u8 (tn x % 256) (c.toNat : Int) = (((x.toNat % 256) ^^^ c.toNat : Nat) : Int) := by
  have hc : c.toNat < 256 := c.toNat_lt
  rw [tn_byte, u8_xor_nat _ _ (Nat.mod_lt _ (by omega)) hc]
theorem byte_xor_lt (x : UInt32) (c : UInt8) : (x.toNat % 256) ^^^ c.toNat < 256 := Nat.xor_lt_two_pow (n := 8) (Nat.mod_lt _ (by omega)) c.toNat_lt

set_option maxHeartbeats 1000000 in
set_option maxRecDepth 100000 in
theorem add_any (g : Nat) (x : UInt32) (s : ByteArray) (w : World) (hs : s.size ≤ 100000) (hg : w.heap[g]? = some (.cells (tw 256) 38 (0, 0))) :
    Calls Try.prog 15 #[.pointer (some ⟨g, 0, none⟩), .int .u32 (tn x), .string s] w fun e w' => e = .returned (.int .u32 (tn (Cr.more x (bl s)))) ∧ Below w.heap.size w w' := by
  have HG := Lib.hid hg
  have hlt0 := (Array.getElem?_eq_some_iff.1 hg).1
  clear hg
  have hend : ~~~ Cr.run (~~~x) (bl s) = Cr.more x (bl s) := rfl
  have HEND := Lib.hid hend
  clear hend
  go_enter Try.func15, Try.ntmps15
  go_wp2
  go_loopg [13, 7] s.size (fun gk i v wr => ∃ k : Nat, k ≤ s.size ∧ gk = s.size - k ∧ i = .int .i64 k ∧ v = .int .u32 (tn (Cr.run (~~~x) ((bl s).take k))) ∧ Below w.heap.size w wr)
  case atStart => exact ⟨0, Nat.zero_le _, rfl, rfl, rfl, Below.refl _ _⟩
  case round =>
    obtain ⟨k, hk, rfl, rfl, rfl, hb⟩ := hrel
    by_cases hlt : k < s.size
    · have h1 : (k : Int) < s.size := by omega
      have hnx := Cr.run_snoc (~~~x) (bl s) k (by rw [bl_length]; exact hlt)
      rw [bl_getD s k hlt] at hnx
      generalize Cr.run (~~~x) ((bl s).take k) = Y at *
      have hst := Cr.step_tab Y s[k]
      have hix := byte_xor Y s[k]
      have hjl := byte_xor_lt Y s[k]
      generalize (Y.toNat % 256) ^^^ s[k].toNat = J at *
      have hc : wr.cell? ⟨g, J, none⟩ = some (.int .u32 (tn (Cr.tab J))) := by
        rw [hb.cell (p := ⟨g, J, none⟩) hlt0]
        exact tw_cell HG.out J hjl
      have hj1 : (J : Int) < 256 := by omega
      have hj0 : (0 : Int) ≤ J := by omega
      have hjn : ((J : Int)).toNat = J := by omega
      generalize Cr.tab J = T at *
      have HN := Lib.hid (hst.trans hnx.symm)
      have HB := Lib.hid hb
      clear hst hnx hb
      go_wp2_with fail
      go_region
      go_wp2
      go_roundg (s.size - (k + 1))
      case rel => exact ⟨k + 1, by omega, rfl, by go_num, by rw [← HN.out, ← t_xor, ← t_eighth], HB.out.drew⟩
      case measure => omega
    · obtain rfl : k = s.size := by omega
      have h1 : ¬ ((s.size : Int) < s.size) := by omega
      rw [show (bl s).take s.size = bl s by rw [← bl_length]; exact List.take_length] at *
      generalize Cr.run (~~~x) (bl s) = Y at *
      go_wp2
      go_ret
      exact ⟨by rw [← HEND.out]; rfl, hb⟩
end Go.Proofs.Ytkaniccmdjbkdaa.Hc
