/-
  The contract of the program's expand (package sha2): the sixty-four words of a block.
-/
import Derived.Test.YtanmhpcfklageaaDoorQa
namespace Go.Proofs.YtanmhpcfklageaaDoor.Ho
open Go.RowKit Hs
set_option linter.unusedVariables false
attribute [local go_sem] t_and t_or t_xor t_not t_add t_sub t_add_wrap t_sub_wrap

/-- the state of expand: the result's row is empty yet, the words' row holds l -/
structure Ex (w wr : World) (l : List UInt32) : Prop where
  below : Below w.heap.size w wr
  res : wr.heap[w.heap.size]? = some (.cells (w64 []) 34 (0, 0))
  row : wr.rowIs (w.heap.size + 1) 34 64 (fun j => .int .u32 (tn (l.getD j 0)))
section
variable {w wr : World} {l : List UInt32} {t : Nat} {x y : UInt32}
theorem row_w64 (w : World) (l : List UInt32) : (w.alloc (.cells (w64 l) 34)).rowIs w.heap.size 34 64 (fun j => .int .u32 (tn (l.getD j 0))) := by
  have h := World.rowIs_alloc w (w64 l) 34 (fun j => .int .u32 (tn (l.getD j 0))) (fun i hi => by rw [w64_size] at hi; exact w64_get l i hi)
  rwa [w64_size] at h
theorem w64_row {g : Nat} (h : w.rowIs g 34 64 (fun j => .int .u32 (tn (l.getD j 0)))) : w.heap[g]? = some (.cells (w64 l) 34 (0, 0)) := by
  obtain ⟨c, hb, hn, hc⟩ := h
  rw [hb]
  congr 2
  apply Array.ext_getElem?
  intro i
  by_cases hi : i < 64
  · rw [hc i hi, w64_get l i hi]
  · rw [Array.getElem?_eq_none (by omega), Array.getElem?_eq_none (by rw [w64_size]; omega)]
theorem Ex.start (w : World) : Ex w ((w.alloc (.cells (w64 []) 34)).alloc (.cells (w64 []) 34)) [] := by
  refine ⟨((Below.refl _ w).alloc (Nat.le_refl _) _).alloc (by simp) _, heap_alloc2_old _ _ _, ?_⟩
  have := row_w64 (w.alloc (.cells (w64 []) 34)) []
  simpa using this
theorem Ex.put (h : Ex w wr l) (hl : l.length = t) (v : UInt32) : Ex w (wr.setCell ⟨w.heap.size + 1, t, none⟩ (.int .u32 (tn v))) (l ++ [v]) := by
  refine ⟨h.below.setCell (Nat.le_succ _) _, (heap_setCell_other _ _ _ _ (by simp)).trans h.res, ?_⟩
  refine (h.row.set t _).congr fun j _ => ?_
  rw [getD_end l v t hl]
  split <;> rfl
theorem Ex.drew (h : Ex w wr l) : Ex w wr.drew l := ⟨h.below.drew, h.res, h.row⟩
theorem Ex.at_ (h : Ex w wr l) {j : Nat} (hj : j < 64) : wr.cell? ⟨w.heap.size + 1, j, none⟩ = some (.int .u32 (tn (l.getD j 0))) := h.row.cell hj
end

theorem sum_e1 (a b : Nat) : a * 16777216 + b * 65536 = (a * 256 + b) * 65536 := by rw [Nat.add_mul, Nat.mul_assoc]
theorem sum_e2 (a c : Nat) : a * 65536 + c * 256 = (a * 256 + c) * 256 := by rw [Nat.add_mul, Nat.mul_assoc]
theorem or_sum (a b c d : Nat) (hb : b < 256) (hc : c < 256) (hd : d < 256) : (a * 16777216 ||| b * 65536 ||| c * 256 ||| d) = a * 16777216 + b * 65536 + c * 256 + d := by
  have h1 := Nat.shiftLeft_add_eq_or_of_lt (i := 24) (b := b * 65536) (by omega) a
  have h2 := Nat.shiftLeft_add_eq_or_of_lt (i := 16) (b := c * 256) (by omega) (a * 256 + b)
  have h3 := Nat.shiftLeft_add_eq_or_of_lt (i := 8) (b := d) (by omega) ((a * 256 + b) * 256 + c)
  simp only [Nat.shiftLeft_eq, Nat.reducePow] at h1 h2 h3
  rw [← h1, sum_e1, ← h2, sum_e2, ← h3]
theorem byteOr_lt (l : List UInt8) (i : Nat) : (Sh.byteOr l i).toNat < 256 := by
  have : (l.getD i 0).toNat < 256 := UInt8.toNat_lt _
  rw [Sh.byteOr, UInt32.toNat_ofNat', Nat.mod_eq_of_lt (by omega)]
  exact this
theorem or_word (l : List UInt8) (t : Nat) : (Sh.byteOr l (4 * t) * 16777216 ||| Sh.byteOr l (4 * t + 1) * 65536 ||| Sh.byteOr l (4 * t + 2) * 256 ||| Sh.byteOr l (4 * t + 3)) = S2.word l t := by
  unfold S2.word
  have h0 := byteOr_lt l (4 * t)
  have h1 := byteOr_lt l (4 * t + 1)
  have h2 := byteOr_lt l (4 * t + 2)
  have h3 := byteOr_lt l (4 * t + 3)
  generalize Sh.byteOr l (4 * t) = a at *
  generalize Sh.byteOr l (4 * t + 1) = b at *
  generalize Sh.byteOr l (4 * t + 2) = c at *
  generalize Sh.byteOr l (4 * t + 3) = d at *
  apply UInt32.toNat_inj.1
  have m0 : (a * 16777216).toNat = a.toNat * 16777216 := by rw [UInt32.toNat_mul]; show a.toNat * 16777216 % 2 ^ 32 = _; omega
  have m1 : (b * 65536).toNat = b.toNat * 65536 := by rw [UInt32.toNat_mul]; show b.toNat * 65536 % 2 ^ 32 = _; omega
  have m2 : (c * 256).toNat = c.toNat * 256 := by rw [UInt32.toNat_mul]; show c.toNat * 256 % 2 ^ 32 = _; omega
  rw [UInt32.toNat_or, UInt32.toNat_or, UInt32.toNat_or, UInt32.toNat_add, UInt32.toNat_add, UInt32.toNat_add, m0, m1, m2, or_sum _ _ _ _ h1 h2 h3]
  omega
theorem four_byte (s : ByteArray) (q k : Nat) (h : q + 4 ≤ s.size) (hk : k < (s.extract q (q + 4)).size) : (((s.extract q (q + 4))[k].toNat : Int)) = tn (Sh.byteOr s.data.toList (q + k)) := by
  have hk4 : k < 4 := by rw [ByteArray.size_extract] at hk; omega
  rw [← byte_word s (q + k) (by omega), ByteArray.getElem_extract]

set_option maxHeartbeats 2000000 in
set_option maxRecDepth 100000 in
theorem expand_any (s : ByteArray) (w : World) (hs : s.size = 64) :
    Calls Tryd.prog 24 #[.string s] w fun e w' => e = .returned (.agg (w64 (S2.wordsTo s.data.toList 64))) ∧ Below w.heap.size w w' := by
  have hz := zv64
  have HST := Lib.hid (Ex.start w)
  go_enter Tryd.func24, Tryd.ntmps24
  go_wp2
  clear hz
  go_loopg [4, 5, 9] 16 (fun g s4 s5 i wr => ∃ t : Nat, t ≤ 16 ∧ g = 16 - t ∧ i = .int .i64 t ∧ Ex w wr (S2.wordsTo s.data.toList t))
  case atStart => exact ⟨0, Nat.zero_le _, rfl, rfl, HST.out⟩
  case round =>
    obtain ⟨t, ht, rfl, rfl, hex⟩ := hrel
    clear HST
    by_cases htl : t < 16
    · have h2 : (t : Int) < 16 := by omega
      have hlen := S2.wordsTo_length s.data.toList t
      have hnw : S2.wordsTo s.data.toList (t + 1) = S2.wordsTo s.data.toList t ++ [S2.word s.data.toList t] := by rw [S2.wordsTo, if_pos htl]
      obtain ⟨q, hq⟩ : ∃ q, 4 * t = q := ⟨_, rfl⟩
      have hqF : q + 4 ≤ s.size := by omega
      have hfs : (s.extract q (q + 4)).size = 4 := by rw [ByteArray.size_extract]; omega
      have hwd := or_word s.data.toList t
      rw [hq] at hwd
      have k0 : 0 < (s.extract q (q + 4)).size := by omega
      have k1 : 1 < (s.extract q (q + 4)).size := by omega
      have k2 : 2 < (s.extract q (q + 4)).size := by omega
      have k3 : 3 < (s.extract q (q + 4)).size := by omega
      have d0 : (((s.extract q (q + 4))[0].toNat : Int)) = tn (Sh.byteOr s.data.toList q) := four_byte s q 0 hqF k0
      have d1 := four_byte s q 1 hqF k1
      have d2 := four_byte s q 2 hqF k2
      have d3 := four_byte s q 3 hqF k3
      generalize Sh.byteOr s.data.toList q = c0 at *
      generalize Sh.byteOr s.data.toList (q + 1) = c1 at *
      generalize Sh.byteOr s.data.toList (q + 2) = c2 at *
      generalize Sh.byteOr s.data.toList (q + 3) = c3 at *
      have hqi : 4 * (t : Int) = (q : Int) := by omega
      have hqj : 4 * ((t : Int) + 1) = ((q + 4 : Nat) : Int) := by omega
      have wt : IntKind.i64.wrap ((t : Int) + 1) = (t : Int) + 1 := IntWalk.i64_in _ (by omega)
      have wq : IntKind.i64.wrap (q : Int) = (q : Int) := IntWalk.i64_in _ (by omega)
      have wq4 : IntKind.i64.wrap ((q + 4 : Nat) : Int) = ((q + 4 : Nat) : Int) := IntWalk.i64_in _ (by omega)
      have v0 : IntKind.u32.wrap (tn c0) = tn c0 := by have := tn_lt c0; have := tn_nonneg c0; rw [IntKind.wrap_u32']; omega
      have v1 : IntKind.u32.wrap (tn c1) = tn c1 := by have := tn_lt c1; have := tn_nonneg c1; rw [IntKind.wrap_u32']; omega
      have v2 : IntKind.u32.wrap (tn c2) = tn c2 := by have := tn_lt c2; have := tn_nonneg c2; rw [IntKind.wrap_u32']; omega
      have v3 : IntKind.u32.wrap (tn c3) = tn c3 := by have := tn_lt c3; have := tn_nonneg c3; rw [IntKind.wrap_u32']; omega
      have y0 : tn c0 * 16777216 % 4294967296 = tn (c0 * 16777216) := t_mul3 c0 16777216
      have y1 : tn c1 * 65536 % 4294967296 = tn (c1 * 65536) := t_mul3 c1 65536
      have y2 : tn c2 * 256 % 4294967296 = tn (c2 * 256) := t_mul3 c2 256
      have hsl : ∀ W, (Instr.slice 9 (.string s) (some (.int .i64 (q : Int))) (some (.int .i64 ((q : Int) + 4))) none).run Tryd.prog W = .ok (.string (s.extract q (q + 4))) W := fun W => by
        have h := run_slice_string (P := Tryd.prog) W 9 s .i64 .i64 (q : Int) ((q : Int) + 4) Tryd.underlying9 (by omega) (by omega) (by omega)
        rw [h, show ((q : Int) + 4).toNat = q + 4 by omega, Int.toNat_natCast]
      have htb : (0 : Int) ≤ t := by omega
      have ht64 : (t : Int) < 64 := by omega
      have hct := hex.at_ (j := t) (by omega)
      have hcf := hex.row.frozen t
      have HPUT := Lib.hid (hex.put hlen (S2.word s.data.toList t))
      have HNW := Lib.hid hnw
      have HWD := Lib.hid hwd
      have HQ := Lib.hid hq
      generalize S2.wordsTo s.data.toList t = L at *
      clear hex hlen hnw hwd hq
      generalize hfour : s.extract q (q + 4) = four at *
      have HFR := Lib.hid hfour
      clear hfour
      go_wp2_with fail
      refine wp_region_still_tail 19 (by kernel_rfl) (by kernel_rfl) ?_
      simp only [List.take_succ_cons, List.take_zero, List.drop_succ_cons, List.drop_zero]
      change wpStill _ _ (World.drew _) (fun a' => wpList _ _ _ _ a' (World.drew _)) _ _
      iterate 19 still_step
      refine wpStill_nil ?_
      go_wp2
      go_roundg (16 - (t + 1))
      case rel => exact ⟨t + 1, by omega, rfl, by go_num, by rw [HNW.out]; have h := HPUT.out.drew; rw [← HWD.out] at h ⊢; exact h⟩
      case measure => omega
    · obtain rfl : t = 16 := by omega
      have HST := Lib.hid hex
      clear hex
      go_wp2
      go_loopg [6, 7, 8] 48 (fun g i s7 s8 wx => ∃ t : Nat, 16 ≤ t ∧ t ≤ 64 ∧ g = 64 - t ∧ i = .int .i64 t ∧ Ex w wx (S2.wordsTo s.data.toList t))
      case atStart => exact ⟨16, Nat.le_refl _, by omega, rfl, rfl, HST.out⟩
      case round =>
        obtain ⟨t, ht16, ht64, rfl, rfl, hex⟩ := hrel
        clear HST
        by_cases htl : t < 64
        · have h2 : (t : Int) < 64 := by omega
          have hlen := S2.wordsTo_length s.data.toList t
          have hnw : S2.wordsTo s.data.toList (t + 1) = S2.wordsTo s.data.toList t ++ [(S2.wordsTo s.data.toList t).getD (t - 16) 0 + S2.s0 ((S2.wordsTo s.data.toList t).getD (t - 15) 0) + (S2.wordsTo s.data.toList t).getD (t - 7) 0 + S2.s1 ((S2.wordsTo s.data.toList t).getD (t - 2) 0)] := by rw [S2.wordsTo, if_neg (by omega)]
          generalize S2.wordsTo s.data.toList t = L at *
          have a16 : (0 : Int) ≤ (t : Int) - 16 := by omega
          have b16 : (16 : Int) ≤ (t : Int) := by omega
          have e16 : (t : Int) - 16 < 64 := by omega
          have n16 : ((t : Int) - 16).toNat = t - 16 := by omega
          have w16 : IntKind.i64.wrap ((t : Int) - 16) = (t : Int) - 16 := IntWalk.i64_in _ (by omega)
          have c16 := hex.at_ (j := t - 16) (by omega)
          have a15 : (0 : Int) ≤ (t : Int) - 15 := by omega
          have b15 : (15 : Int) ≤ (t : Int) := by omega
          have e15 : (t : Int) - 15 < 64 := by omega
          have n15 : ((t : Int) - 15).toNat = t - 15 := by omega
          have w15 : IntKind.i64.wrap ((t : Int) - 15) = (t : Int) - 15 := IntWalk.i64_in _ (by omega)
          have c15 := hex.at_ (j := t - 15) (by omega)
          have a7 : (0 : Int) ≤ (t : Int) - 7 := by omega
          have b7 : (7 : Int) ≤ (t : Int) := by omega
          have e7 : (t : Int) - 7 < 64 := by omega
          have n7 : ((t : Int) - 7).toNat = t - 7 := by omega
          have w7 : IntKind.i64.wrap ((t : Int) - 7) = (t : Int) - 7 := IntWalk.i64_in _ (by omega)
          have c7 := hex.at_ (j := t - 7) (by omega)
          have a2 : (0 : Int) ≤ (t : Int) - 2 := by omega
          have b2 : (2 : Int) ≤ (t : Int) := by omega
          have e2 : (t : Int) - 2 < 64 := by omega
          have n2 : ((t : Int) - 2).toNat = t - 2 := by omega
          have w2 : IntKind.i64.wrap ((t : Int) - 2) = (t : Int) - 2 := IntWalk.i64_in _ (by omega)
          have c2 := hex.at_ (j := t - 2) (by omega)
          have ct := hex.at_ (j := t) htl
          have cf := hex.row.frozen t
          have h0 : (0 : Int) ≤ t := by omega
          have HPUT := Lib.hid (hex.put hlen (L.getD (t - 16) 0 + S2.s0 (L.getD (t - 15) 0) + L.getD (t - 7) 0 + S2.s1 (L.getD (t - 2) 0)))
          have HNW := Lib.hid hnw
          clear hex hlen hnw
          generalize L.getD (t - 16) 0 = x16 at *
          generalize L.getD (t - 15) 0 = x15 at *
          generalize L.getD (t - 7) 0 = x7 at *
          generalize L.getD (t - 2) 0 = x2 at *
          have z3 := tn_nonneg x15
          have z2 := tn_nonneg x2
          have z3' := tn_lt x15
          have z2' := tn_lt x2
          go_wp2_with fail
          refine wp_region_still_lit (by kernel_rfl) (by kernel_rfl) ?_
          change wpStill _ _ (World.drew _) (fun a' => Exit.then _ _ _ a' (World.drew _)) _ _
          iterate 10 still_step
          refine wpStill_nil ?_
          go_wp2_with fail
          refine wp_region_still_tail 28 (by kernel_rfl) (by kernel_rfl) ?_
          simp only [List.take_succ_cons, List.take_zero, List.drop_succ_cons, List.drop_zero]
          change wpStill _ _ (World.drew _) (fun a' => wpList _ _ _ _ a' (World.drew _)) _ _
          iterate 6 still_step
          still_call (turn7 _ _)
          iterate 1 still_step
          still_call (turn18 _ _)
          iterate 11 still_step
          still_call (turn17 _ _)
          iterate 1 still_step
          still_call (turn19 _ _)
          iterate 5 still_step
          refine wpStill_nil ?_
          go_wp2
          go_roundg (64 - (t + 1))
          case rel => exact ⟨t + 1, by omega, by omega, rfl, by go_num, by rw [HNW.out, word_form]; exact HPUT.out.drew.drew⟩
          case measure => omega
        · obtain rfl : t = 64 := by omega
          have hw := w64_row hex.row
          have hr := hex.res
          have hbl := hex.below
          clear hex
          generalize hL : S2.wordsTo s.data.toList 64 = L at *
          have HL := Lib.hid hL
          clear hL
          have HR := Lib.hid hr
          have HH := Lib.hid hw
          clear hr hw
          go_wp2_with (first
            | (with_reducible refine wpList_load_row rfl 34 (.tmp 3) rfl (w.heap.size + 1) rfl 34 (w64 L) (0, 0) _ HH.out Tryd.underlying34 rfl (info64 _) ?_)
            | (with_reducible refine wpList_store_row rfl 34 (.tmp 2) (.tmp 81) rfl w.heap.size (w64 L) rfl rfl 34 (w64 []) HR.out (info64 _) (by rw [w64_size, w64_size]) (w64_one _) ?_))
          refine bodyPost_ret (results_cell_row Tryd.results24 _ _ w.heap.size 34 (w64 L) (0, 0) _ rfl (setRow_heap _ _ _ _ _ _ HR.out) Tryd.underlying34 rfl (info64 _)) rfl ⟨by rw [HL.out], ?_⟩
          exact below_row hbl (Nat.le_refl _) _
end Go.Proofs.YtanmhpcfklageaaDoor.Ho
