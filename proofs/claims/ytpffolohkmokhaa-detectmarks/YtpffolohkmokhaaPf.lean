/-
  The contract of the program's take (package sha1): a part more.
-/
import Derived.Test.YtpffolohkmokhaaPe
import Derived.Deep.DeepCutAuto
import Derived.Deep.CutBlock
namespace Go.Proofs.Ytpffolohkmokhaa.Hp
open Go.RowKit Hs
set_option linter.unusedVariables false

theorem fill_block (l p r : List UInt8) (q hd : Nat) (hl : l.length = 64 * q + hd) (h64 : hd ≤ 64) (hp : 64 ≤ hd + p.length) (hr : r.length = 64) (hrt : r.take hd = l.drop (64 * q)) :
    r.take hd ++ p.take (64 - hd) ++ r.drop (hd + (64 - hd)) = ((l ++ p).drop (64 * q)).take 64 := by
  rw [show r.drop (hd + (64 - hd)) = [] from List.drop_eq_nil_of_le (by omega), List.append_nil, hrt, List.drop_append_of_le_length (by omega), List.take_append, List.take_of_length_le (l := l.drop (64 * q)) (by rw [List.length_drop]; omega), List.length_drop]
  congr 2
  omega
theorem told_more {w : World} {b : Nat} {X : Sh.Ch} {r : List UInt8} {n : Nat} (m : Nat) (hr : r.length = 64) (hg : w.heap[b]? = some (.cells (sts X r n) 81 (0, 0))) :
    (w.setCell ⟨b, 69, none⟩ (.int .u64 m)).heap[b]? = some (.cells (sts X r m) 81 (0, 0)) := by
  rw [heap_setCell_same w b 69 _ _ _ hg, sts_set _ _ _ _ hr]
theorem grown_told (w : World) (b : Nat) (v : Value) : w.grownBy (w.setCell ⟨b, 69, none⟩ v) (some b) := Lib.grownBy_setCell w b 69 v

theorem tail_list (l p : List UInt8) (q hd m : Nat) (hl : l.length = 64 * q + hd) (hm : 64 - hd = m) (h64 : hd ≤ 64) : p.drop m = (l ++ p).drop (64 * (q + 1) + 0) := by
  rw [List.drop_append, show l.drop (64 * (q + 1) + 0) = [] from List.drop_eq_nil_of_le (by omega), List.nil_append]
  congr 1
  omega
theorem grown_drew {w wr w1 : World} {b : Nat} (h : w.grownBy wr (some b)) (hb : Below wr.heap.size wr.drew w1) : w.grownBy w1 (some b) :=
  grown_below h ⟨hb.os, hb.tape, hb.output, hb.size, hb.block⟩
theorem slice_from (w : World) (b h : Nat) (hh : h < 64) : (Instr.sliceAt 79 (.pointer (some ⟨b, 5, none⟩)) (some (.int .i64 h)) none none).run Try.prog w = .ok (.slice (some ⟨b, 5 + h, none⟩) (64 - h) (64 - h)) w := by
  have hl : Try.prog.arrayLen 79 = 64 := by kernel_rfl
  have he : Try.prog.elem 79 = 5 := by kernel_rfl
  rw [run_sliceAt_array_l (P := Try.prog) w 79 ⟨b, 5, none⟩ (by rw [hl, he]; exact Try.underlying79) .i64 h (by omega) (by rw [hl]; omega), hl, he, Try.sizeOf5]
  show Result.ok (slicedAt _ _ _ _ _) w = _
  rw [slicedAt, if_neg (by omega)]
  simp [Addr.add]
theorem slice_all (w : World) (b : Nat) : (Instr.sliceAt 79 (.pointer (some ⟨b, 5, none⟩)) none none none).run Try.prog w = .ok (.slice (some ⟨b, 5, none⟩) 64 64) w := by
  have hl : Try.prog.arrayLen 79 = 64 := by kernel_rfl
  have he : Try.prog.elem 79 = 5 := by kernel_rfl
  rw [run_sliceAt_array_all (P := Try.prog) w 79 ⟨b, 5, none⟩ (by rw [hl, he]; exact Try.underlying79), hl, he, Try.sizeOf5]
  simp [slicedAt, Addr.add]
theorem info5s : (Try.prog.info? 5).map (·.size) = some 1 := by kernel_rfl

set_option maxHeartbeats 2000000 in
set_option maxRecDepth 100000 in
theorem take_any (w : World) (b : Nat) (l : List UInt8) (p : ByteArray) (h : St w b l) (hs : l.length + p.size ≤ 10000000) :
    Calls Try.prog 45 #[.pointer (some ⟨b, 0, none⟩), .string p] w fun e w' => e = .returned (.tuple #[]) ∧ St w' b (l ++ p.data.toList) ∧ w.grownBy w' (some b) := by
  obtain ⟨r, hr, hrt, hg⟩ := h
  obtain ⟨q, hq⟩ : ∃ q, l.length / 64 = q := ⟨_, rfl⟩
  obtain ⟨hd, hhd⟩ : ∃ hd, l.length % 64 = hd := ⟨_, rfl⟩
  have hd64 : hd < 64 := by omega
  have hll : l.length = 64 * q + hd := by omega
  rw [hq] at hrt hg
  rw [hhd] at hrt
  have hpl : p.data.toList.length = p.size := by simp
  have hLl : (l ++ p.data.toList).length = l.length + p.size := by rw [List.length_append, hpl]
  have ct := cell_of_row w b 69 _ _ _ hg
  rw [sts_told _ _ _ hr] at ct
  have cf := frozen_of_row w b 69 _ _ hg
  have hrow := told_more (l.length + p.size) hr hg
  have hgr := grown_told w b (.int .u64 (l.length + p.size : Nat))
  rw [← chain_append l p.data.toList q (by omega)] at hrow
  have hmid : Mid w (w.setCell ⟨b, 69, none⟩ (.int .u64 (l.length + p.size : Nat))) b (l ++ p.data.toList) q hd p ∨ 64 ≤ hd + p.size ∧ 0 < hd := by
    by_cases h1 : 64 ≤ hd + p.size ∧ 0 < hd
    · exact .inr h1
    · refine .inl ⟨hgr, ⟨r, hr, ?_, ?_⟩, by rw [hLl]; omega, ?_, by omega⟩
      · rw [hrt, List.drop_append_of_le_length (by omega), List.take_append_of_le_length (by simp; omega), List.take_of_length_le (by simp; omega)]
      · rw [hLl]; exact hrow
      · rw [← hll, List.drop_left]
  generalize hn : l.length = n at *
  have HR := Lib.hid hrow
  have HGR := Lib.hid hgr
  have HMID := Lib.hid hmid
  have HLL := Lib.hid hLl
  have HRT := Lib.hid hrt
  have HHD := Lib.hid hhd
  have HQ := Lib.hid hq
  have HN := Lib.hid hn
  have hm0 : (n : Int) % 64 = hd := by omega
  have HL := Lib.hid hll
  clear hrow hgr hmid hLl hrt hhd hq hn hpl hg hll
  go_enter Try.func45, Try.ntmps45
  go_upto_region 2 with fail
  go_cut [30] (fun s30 wx => s30 = .bool (decide (64 ≤ hd + p.size ∧ 0 < hd)) ∧ wx = w.setCell ⟨b, 69, none⟩ (.int .u64 (n + p.size : Nat)))
  case first =>
    by_cases h0 : 0 < hd
    · have h0' : (0 : Int) < hd := by omega
      by_cases h1 : 64 ≤ hd + p.size
      · have h1' : (64 : Int) ≤ hd + p.size := by omega
        go_wp2
        go_meet
        exact ⟨by simp [h0, h1], rfl⟩
      · have h1' : ¬ (64 : Int) ≤ hd + p.size := by omega
        go_wp2
        go_meet
        exact ⟨by simp [h0, h1], rfl⟩
    · have h0' : ¬ (0 : Int) < hd := by omega
      go_wp2
      go_meet
      exact ⟨by simp [h0], rfl⟩
  case rest =>
    obtain ⟨rfl, rfl⟩ := hcut
    generalize hW1 : w.setCell ⟨b, 69, none⟩ (.int .u64 (n + p.size : Nat)) = w1 at *
    clear ct cf hW1
    go_upto_if 30 with fail
    go_cut [1, 4] (fun s1 s4 wx => ∃ (k h : Nat) (P : ByteArray), s1 = .string P ∧ s4 = .int .i64 h ∧ Mid w wx b (l ++ p.data.toList) k h P)
    case first =>
      by_cases hc : 64 ≤ hd + p.size ∧ 0 < hd
      · have hcb : decide (64 ≤ hd + p.size ∧ 0 < hd) = true := by simp [hc]
        obtain ⟨m, hm⟩ : ∃ m, 64 - hd = m := ⟨_, rfl⟩
        obtain ⟨o, ho⟩ : ∃ o, 5 + hd = o := ⟨_, rfl⟩
        have hsl := fun W => slice_from W b hd hd64
        rw [hm, ho] at hsl
        have hcp := fun ty => run_copy_bytes (P := Try.prog) w1 66 9 ty 5 b o m m p _ 81 Try.underlying66 info5s HR.out m (by omega) (by rw [sts_size _ _ _ hr]; omega)
        have hfb := fill_block l p.data.toList r q hd (by rw [HN.out, HL.out]) (by omega) (by simpa using hc.1) hr HRT.out
        rw [hm] at hfb
        rw [← ho, sts_copy _ _ _ _ _ _ hr (by simp; omega) (by omega), hfb] at hcp
        rw [ho] at hcp
        have hbl : (((l ++ p.data.toList).drop (64 * q)).take 64).length = 64 := by rw [← hfb]; simp [hr]; omega
        have hch : Sh.chain (l ++ p.data.toList) (q + 1) = Sh.press (Sh.chain (l ++ p.data.toList) q) (((l ++ p.data.toList).drop (64 * q)).take 64) := rfl
        generalize hBB : ((l ++ p.data.toList).drop (64 * q)).take 64 = B at *
        have hrow2 := setRow_heap _ _ _ (sts (Sh.chain (l ++ p.data.toList) q) B (n + p.size)) _ _ HR.out
        have hg2 : w.grownBy (w1.setRow b (sts (Sh.chain (l ++ p.data.toList) q) B (n + p.size))) (some b) := grown_setRow HGR.out _
        have HM := Lib.hid hm
        have HO := Lib.hid ho
        have HC := Lib.hid hch
        have HB := Lib.hid hbl
        have HR2 := Lib.hid hrow2
        have HG2 := Lib.hid hg2
        clear hm ho hfb hch hbl hrow2 hg2 hBB
        go_upto_region 4 with fail
        generalize w1.setRow b (sts (Sh.chain (l ++ p.data.toList) q) B (n + p.size)) = w2 at *
        have hcv := sts_text w2.drew b _ B _ HB.out HR2.out
        have hsa := fun W => slice_all W b
        have hblt := (Array.getElem?_eq_some_iff.1 HR2.out).1
        have hBs : (⟨B.toArray⟩ : ByteArray).size = 64 := by rw [Lib.size_eq]; simpa using HB.out
        have HBS := Lib.hid hBs
        have hmp : m ≤ p.size := by have := HM.out; omega
        clear hBs hcp hsl
        generalize Sh.chain (l ++ p.data.toList) q = X at *
        refine wp_region_any (by kernel_rfl) ?_
        change wpAny _ _ _ _ _ _ _ (World.drew _)
        refine wpAny_take (i := 0) (v := .pointer (some ⟨b, 0, none⟩)) rfl (by kernel_rfl) (by kernel_rfl) (by kernel_rfl) (fun _ _ _ h => h) (Or.inl ⟨by rfl, fun w => by go_simp⟩) ?_
        go_simp
        refine wpAny_take (i := 1) (v := .pointer (some ⟨b, 0, none⟩)) rfl (by kernel_rfl) (by kernel_rfl) (by kernel_rfl) (fun _ _ _ h => h) (Or.inl ⟨by rfl, fun w => by go_simp⟩) ?_
        go_simp
        refine wpAny_take (i := 2) (v := .pointer (some ⟨b, 0, none⟩)) rfl (by kernel_rfl) (by kernel_rfl) (by kernel_rfl) (fun _ _ _ h => h) (Or.inl ⟨by rfl, fun w => by go_simp⟩) ?_
        go_simp
        refine wpAny_take (i := 3) (v := .pointer (some ⟨b, 0, none⟩)) rfl (by kernel_rfl) (by kernel_rfl) (by kernel_rfl) (fun _ _ _ h => h) (Or.inl ⟨by rfl, fun w => by go_simp⟩) ?_
        go_simp
        refine wpAny_take (i := 5) (v := .pointer (some ⟨b, 0, none⟩)) rfl (by kernel_rfl) (by kernel_rfl) (by kernel_rfl) (fun _ _ _ h => h) (Or.inl ⟨by rfl, fun w => by go_simp⟩) ?_
        go_simp
        refine wpAny_take (i := 6) (v := .pointer (some ⟨b, 0, none⟩)) rfl (by kernel_rfl) (by kernel_rfl) (by kernel_rfl) (fun _ _ _ h => h) (Or.inl ⟨by rfl, fun w => by go_simp⟩) ?_
        go_simp
        refine wpAny_take (i := 7) (v := .pointer (some ⟨b, 5, none⟩)) rfl (by kernel_rfl) (by kernel_rfl) (by kernel_rfl) (fun _ _ _ h => h) (Or.inl ⟨by rfl, fun w => by go_simp⟩) ?_
        go_simp
        refine wpAny_take (i := 8) (v := .slice (some ⟨b, 5, none⟩) 64 64) rfl (by kernel_rfl) (by kernel_rfl) (by kernel_rfl) (fun _ _ _ h => h) (Or.inl ⟨by rfl, fun w => by go_simp⟩) ?_
        go_simp
        refine wpAny_ready (rs := [4, 9]) (by kernel_rfl) (by simp) ?_
        refine AllReady.cons rfl (fun K hK => ?_) (AllReady.cons rfl (fun K hK => ?_) AllReady.nil)
        · rw [if_pos (by rfl)]
          refine wp_load_chain (.tmp 41) rfl b rfl X B (n + p.size) HR2.out ?_
          refine hK _ _ ?_
          clear hK K
          go_simp
          refine wpAny_ready (rs := [9]) (by kernel_rfl) (by simp) ?_
          refine AllReady.cons rfl (fun K hK => ?_) AllReady.nil
          go_simp
          refine hK _ _ ?_
          clear hK K
          refine wpAny_ready (rs := [10]) (by kernel_rfl) (by simp) ?_
          refine AllReady.cons rfl (fun K hK => ?_) AllReady.nil
          go_simp
          refine (press_any X ⟨B.toArray⟩ _ (by rw [HBS.out]; omega)).mono ?_
          rintro e w3 ⟨rfl, hb3⟩
          refine hK _ _ ?_
          clear hK K
          refine wpAny_take (i := 11) (v := .pointer (some ⟨b, 0, none⟩)) rfl (by kernel_rfl) (by kernel_rfl) (by kernel_rfl) (fun _ _ _ h => h) (Or.inl ⟨by rfl, fun w => by go_simp⟩) ?_
          go_simp
          refine wpAny_take (i := 12) (v := .pointer (some ⟨b, 0, none⟩)) rfl (by kernel_rfl) (by kernel_rfl) (by kernel_rfl) (fun _ _ _ h => h) (Or.inl ⟨by rfl, fun w => by go_simp⟩) ?_
          go_simp
          refine wpAny_ready (rs := [13]) (by kernel_rfl) (by simp) ?_
          refine AllReady.cons rfl (fun K hK => ?_) AllReady.nil
          rw [if_pos (by rfl)]
          have hrow3 : w3.heap[b]? = some (.cells (sts X B (n + p.size)) 81 (0, 0)) := by rw [hb3.block _ hblt]; exact HR2.out
          refine wp_store_chain (.tmp 50) (.tmp 48) rfl b _ rfl rfl X B (n + p.size) hrow3 ?_
          refine hK _ _ ?_
          clear hK K
          go_simp
          refine wpAny_done (by kernel_rfl) ?_ _
          have hm3 : Mid w (w3.setRow b (sts (Sh.press X B) B (n + p.size))) b (l ++ p.data.toList) (q + 1) 0 (p.extract m p.size) := by
            refine ⟨grown_setRow (grown_drew HG2.out hb3) _, ⟨B, HB.out, by simp, ?_⟩, ?_, ?_, .inl rfl⟩
            · rw [setRow_heap _ _ _ _ _ _ hrow3, HC.out, HLL.out]
            · rw [ByteArray.size_extract, HLL.out, HL.out]; have := HM.out; omega
            · rw [extract_list, List.take_of_length_le (by simp)]
              exact tail_list l _ q hd m (HN.out.trans HL.out) HM.out (by omega)
          have HM3 := Lib.hid hm3
          clear hm3 hrow3 hb3
          go_wp2
          go_meet
          exact ⟨q + 1, 0, p.extract m p.size, rfl, rfl, HM3.out⟩
        · go_simp
          refine hK _ _ ?_
          clear hK K
          refine wpAny_ready (rs := [4]) (by kernel_rfl) (by simp) ?_
          refine AllReady.cons rfl (fun K hK => ?_) AllReady.nil
          rw [if_pos (by rfl)]
          refine wp_load_chain (.tmp 41) rfl b rfl X B (n + p.size) HR2.out ?_
          refine hK _ _ ?_
          clear hK K
          go_simp
          refine wpAny_ready (rs := [10]) (by kernel_rfl) (by simp) ?_
          refine AllReady.cons rfl (fun K hK => ?_) AllReady.nil
          go_simp
          refine (press_any X ⟨B.toArray⟩ _ (by rw [HBS.out]; omega)).mono ?_
          rintro e w3 ⟨rfl, hb3⟩
          refine hK _ _ ?_
          clear hK K
          refine wpAny_take (i := 11) (v := .pointer (some ⟨b, 0, none⟩)) rfl (by kernel_rfl) (by kernel_rfl) (by kernel_rfl) (fun _ _ _ h => h) (Or.inl ⟨by rfl, fun w => by go_simp⟩) ?_
          go_simp
          refine wpAny_take (i := 12) (v := .pointer (some ⟨b, 0, none⟩)) rfl (by kernel_rfl) (by kernel_rfl) (by kernel_rfl) (fun _ _ _ h => h) (Or.inl ⟨by rfl, fun w => by go_simp⟩) ?_
          go_simp
          refine wpAny_ready (rs := [13]) (by kernel_rfl) (by simp) ?_
          refine AllReady.cons rfl (fun K hK => ?_) AllReady.nil
          rw [if_pos (by rfl)]
          have hrow3 : w3.heap[b]? = some (.cells (sts X B (n + p.size)) 81 (0, 0)) := by rw [hb3.block _ hblt]; exact HR2.out
          refine wp_store_chain (.tmp 50) (.tmp 48) rfl b _ rfl rfl X B (n + p.size) hrow3 ?_
          refine hK _ _ ?_
          clear hK K
          go_simp
          refine wpAny_done (by kernel_rfl) ?_ _
          have hm3 : Mid w (w3.setRow b (sts (Sh.press X B) B (n + p.size))) b (l ++ p.data.toList) (q + 1) 0 (p.extract m p.size) := by
            refine ⟨grown_setRow (grown_drew HG2.out hb3) _, ⟨B, HB.out, by simp, ?_⟩, ?_, ?_, .inl rfl⟩
            · rw [setRow_heap _ _ _ _ _ _ hrow3, HC.out, HLL.out]
            · rw [ByteArray.size_extract, HLL.out, HL.out]; have := HM.out; omega
            · rw [extract_list, List.take_of_length_le (by simp)]
              exact tail_list l _ q hd m (HN.out.trans HL.out) HM.out (by omega)
          have HM3 := Lib.hid hm3
          clear hm3 hrow3 hb3
          go_wp2
          go_meet
          exact ⟨q + 1, 0, p.extract m p.size, rfl, rfl, HM3.out⟩
      · have hcb : decide (64 ≤ hd + p.size ∧ 0 < hd) = false := by simpa using hc
        go_wp2_with fail
        go_meet
        exact ⟨q, hd, p, rfl, rfl, HMID.out.resolve_right hc⟩
    case rest =>
      obtain ⟨k, h, P, rfl, rfl, hmid⟩ := hcut
      clear HR HGR HMID HRT HHD HQ HN HL hm0
      generalize hLL : l ++ p.data.toList = L at *
      have HLE := Lib.hid hLL
      have HM := Lib.hid hmid
      clear hmid hLL
      go_upto_block 0 with fail
      go_wp2_with fail
      go_loopg [1] P.size (fun g s1 wr => ∃ (k : Nat) (P : ByteArray), g = P.size ∧ s1 = .string P ∧ Mid w wr b L k h P)
      case atStart => exact ⟨k, P, rfl, rfl, HM.out⟩
      case round =>
        obtain ⟨k, P, rfl, rfl, hmid⟩ := hrel
        clear HM
        have hPs : P.size ≤ 10000000 := by have := hmid.pos; rw [HLL.out] at this; omega
        by_cases h64 : 64 ≤ P.size
        · have h64' : (64 : Int) ≤ P.size := by omega
          have hblk := fun w1 => hmid.block (w1 := w1) h64
          have HH0 := Lib.hid (show h = 0 by rcases hmid.small with h1 | h1 <;> omega)
          obtain ⟨r', hr', hrt', hrow'⟩ := hmid.row
          have hblt := (Array.getElem?_eq_some_iff.1 hrow').1
          generalize hX : Sh.chain L k = X at *
          have HROW := Lib.hid hrow'
          have HBK := Lib.hid hblk
          have HX := Lib.hid hX
          clear hrow' hblk hX hrt' hmid
          go_wp2_with fail
          refine wp_region_any (by kernel_rfl) ?_
          change wpAny _ _ _ _ _ _ _ (World.drew _)
          refine wpAny_take (i := 0) (v := .pointer (some ⟨b, 0, none⟩)) rfl (by kernel_rfl) (by kernel_rfl) (by kernel_rfl) (fun _ _ _ h => h) (Or.inl ⟨by rfl, fun w => by go_simp⟩) ?_
          go_simp
          refine wpAny_take (i := 1) (v := .pointer (some ⟨b, 0, none⟩)) rfl (by kernel_rfl) (by kernel_rfl) (by kernel_rfl) (fun _ _ _ h => h) (Or.inl ⟨by rfl, fun w => by go_simp⟩) ?_
          go_simp
          refine wpAny_take (i := 2) (v := .pointer (some ⟨b, 0, none⟩)) rfl (by kernel_rfl) (by kernel_rfl) (by kernel_rfl) (fun _ _ _ h => h) (Or.inl ⟨by rfl, fun w => by go_simp⟩) ?_
          go_simp
          refine wpAny_take (i := 3) (v := .pointer (some ⟨b, 0, none⟩)) rfl (by kernel_rfl) (by kernel_rfl) (by kernel_rfl) (fun _ _ _ h => h) (Or.inl ⟨by rfl, fun w => by go_simp⟩) ?_
          go_simp
          refine wpAny_take (i := 5) (v := .string P) rfl (by kernel_rfl) (by kernel_rfl) (by kernel_rfl) (fun _ _ _ h => h) (Or.inl ⟨by rfl, fun w => by go_simp⟩) ?_
          go_simp
          refine wpAny_take (i := 6) (v := .string (P.extract 0 64)) rfl (by kernel_rfl) (by kernel_rfl) (by kernel_rfl) (fun _ _ _ h => h) (Or.inl ⟨by rfl, fun w => by go_simp⟩) ?_
          go_simp
          refine wpAny_ready (rs := [4]) (by kernel_rfl) (by simp) ?_
          refine AllReady.cons rfl (fun K hK => ?_) AllReady.nil
          rw [if_pos (by rfl)]
          refine wp_load_chain (.tmp 60) rfl b rfl X r' L.length HROW.out ?_
          refine hK _ _ ?_
          clear hK K
          go_simp
          refine wpAny_ready (rs := [7]) (by kernel_rfl) (by simp) ?_
          refine AllReady.cons rfl (fun K hK => ?_) AllReady.nil
          go_simp
          refine (press_any X (P.extract 0 64) _ (by rw [ByteArray.size_extract]; omega)).mono ?_
          rintro e w3 ⟨rfl, hb3⟩
          refine hK _ _ ?_
          clear hK K
          refine wpAny_take (i := 8) (v := .pointer (some ⟨b, 0, none⟩)) rfl (by kernel_rfl) (by kernel_rfl) (by kernel_rfl) (fun _ _ _ h => h) (Or.inl ⟨by rfl, fun w => by go_simp⟩) ?_
          go_simp
          refine wpAny_take (i := 9) (v := .pointer (some ⟨b, 0, none⟩)) rfl (by kernel_rfl) (by kernel_rfl) (by kernel_rfl) (fun _ _ _ h => h) (Or.inl ⟨by rfl, fun w => by go_simp⟩) ?_
          go_simp
          refine wpAny_ready (rs := [10]) (by kernel_rfl) (by simp) ?_
          refine AllReady.cons rfl (fun K hK => ?_) AllReady.nil
          rw [if_pos (by rfl)]
          obtain ⟨r2, hr2, hrow2, hmid2⟩ := HBK.out w3 ⟨hb3.os, hb3.tape, hb3.output, hb3.size, hb3.block⟩
          refine wp_store_chain (.tmp 66) (.tmp 64) rfl b _ rfl rfl X r2 L.length hrow2 ?_
          refine hK _ _ ?_
          clear hK K
          go_simp
          refine wpAny_done (by kernel_rfl) ?_ _
          have HM2 := Lib.hid hmid2
          clear hmid2 hrow2 hb3
          go_wp2
          go_roundg (P.extract 64 P.size).size
          case rel =>
            refine ⟨k + 1, P.extract 64 P.size, rfl, rfl, ?_⟩
            have h3 := HM2.out
            rw [show (P.extract 0 64).data.toList = P.data.toList.take 64 by rw [extract_list]; rfl] at h3
            rw [HH0.out]
            exact h3
          case measure => rw [ByteArray.size_extract]; omega
        · have h64' : ¬ (64 : Int) ≤ P.size := by omega
          have hh64 : h < 64 := by rcases hmid.small with h1 | h1 <;> omega
          have hfit := hmid.small
          obtain ⟨cur, hrow, hsz, hst, hgr⟩ := hmid.done (by omega)
          obtain ⟨m, hm⟩ : ∃ m, 64 - h = m := ⟨_, rfl⟩
          obtain ⟨o, ho⟩ : ∃ o, 5 + h = o := ⟨_, rfl⟩
          have hsl := fun W => slice_from W b h hh64
          rw [hm, ho] at hsl
          have hcp := fun ty => run_copy_bytes (P := Try.prog) wr 66 9 ty 5 b o m m P _ 81 Try.underlying66 info5s hrow P.size (by omega) (by rw [← ho]; exact hsz)
          rw [ho] at hst
          have HST := Lib.hid hst
          have HGR := Lib.hid hgr
          clear hm ho hst hgr hrow hsz hfit hmid
          go_wp2
          rw [← List.append_assoc]
          refine bodyPost_end (v := .tuple #[]) (by simp [results, Try.results45]) rfl ⟨rfl, ?_, HGR.out _⟩
          rw [HLE.out]
          exact HST.out
end Go.Proofs.Ytpffolohkmokhaa.Hp
