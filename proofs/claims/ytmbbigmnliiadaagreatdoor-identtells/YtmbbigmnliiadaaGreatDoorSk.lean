/-
  The contract of the document's Sum (layer 3): SHA-256.
-/
import Derived.Test.YtmbbigmnliiadaaGreatDoorS1
namespace Go.Proofs.YtmbbigmnliiadaaGreatDoor.Hs
open Go.RowKit
set_option linter.unusedVariables false
attribute [local go_sem] t_and t_or t_xor t_not t_add t_sub t_add_wrap t_sub_wrap

set_option maxHeartbeats 4000000 in
set_option maxRecDepth 100000 in
theorem rsum2_any (s : ByteArray) (w : World) (hs : s.size ≤ 90000) :
    Calls Tryz.prog 26 #[.string s] w fun e w' => e = .returned (.string ⟨(S2.sum s.data.toList).toArray⟩) ∧ Below w.heap.size w w' := by
  obtain ⟨i0, hi0, hz0, hz1, hz2⟩ := info_parts info5
  have HI := Lib.hid (And.intro hi0 (And.intro hz0 (And.intro hz1 hz2)))
  clear hi0 hz0 hz1 hz2
  have hfl : (Sh.fill s.data.toList).length ≤ 100000 := by
    rw [Sh.fill, List.length_append, Sh.pad_length, Sh.highs_length]
    have : Sh.nought s.data.toList.length < 64 := Nat.mod_lt _ (by omega)
    simp at this ⊢
    omega
  have hz := zv64
  go_enter Tryz.func26, Tryz.ntmps26
  go_wp2_with fail
  refine (rfill_any _ _ (by omega)).mono ?_
  rintro e w1 ⟨rfl, hb1⟩
  have hsum : S2.sum s.data.toList = S2.told (S2.chain (Sh.fill s.data.toList) ((Sh.fill s.data.toList).length / 64)) 8 := rfl
  have h64 := S2.fill_length s.data.toList
  generalize hF : (⟨(Sh.fill s.data.toList).toArray⟩ : ByteArray) = F at *
  have hFl : Sh.fill s.data.toList = F.data.toList := by rw [← hF]
  rw [hFl] at hsum h64 hfl
  have hFs : F.data.toList.length = F.size := by simp
  rw [hFs] at hsum h64 hfl
  have HSUM := Lib.hid hsum
  have H64 := Lib.hid h64
  clear hsum h64 hF hFl hFs
  go_wp2_with fail
  refine (keys_any _).mono ?_
  rintro e w2 ⟨rfl, hb2⟩
  have hbw := hb1.trans (hb2.mono hb1.size)
  have hnew := heap_alloc_new w2 (.cells (w64 []) 62)
  have hkr := setRow_heap _ _ _ (w64 S2.keys) _ _ hnew
  have hb3 : Below w.heap.size w ((w2.alloc (.cells (w64 []) 62)).setRow w2.heap.size (w64 S2.keys)) := below_row (hbw.alloc hbw.size _) hbw.size _
  have hw3 : w2.heap.size < ((w2.alloc (.cells (w64 []) 62)).setRow w2.heap.size (w64 S2.keys)).heap.size := by simp
  have HNEW := Lib.hid hnew
  clear hnew hb1 hb2
  have hgk := hbw.size
  go_wp2_with (with_reducible refine wpList_store_row rfl 62 (.tmp 4) (.tmp 28) rfl w2.heap.size _ rfl rfl 62 _ HNEW.out (info64 _) (by rw [w64_size, w64_size]) (w64_one _) ?_)
  have hst : Sm w (((w2.alloc (.cells (w64 []) 62)).setRow w2.heap.size (w64 S2.keys)).alloc (.cells #[.int .u32 1779033703, .int .u32 3144134277, .int .u32 1013904242, .int .u32 2773480762, .int .u32 1359893119, .int .u32 2600822924, .int .u32 528734635, .int .u32 1541459225] 64)) w2.heap.size (w2.heap.size + 1) S2.first := by
    rw [← c8_first]
    have e1 : ((w2.alloc (.cells (w64 []) 62)).setRow w2.heap.size (w64 S2.keys)).heap.size = w2.heap.size + 1 := by simp
    refine ⟨hb3.alloc hb3.size _, hgk, by omega, by omega, (Below.heap_alloc _ _ _ hw3).trans hkr, ?_⟩
    rw [← e1]
    exact heap_alloc_new _ _
  have HST := Lib.hid hst
  clear hst hkr hb3 hw3 HNEW hbw
  generalize hgg : w2.heap.size = gk at *
  clear hgg
  generalize hgx : gk + 1 = gx at *
  clear hgx
  go_loopg [6] (F.size / 64) (fun g i wr => ∃ (k j : Nat), k ≤ F.size / 64 ∧ j = 64 * k ∧ g = F.size / 64 - k ∧ i = .int .i64 j ∧ Sm w wr gk gx (S2.chain F.data.toList k))
  case atStart => exact ⟨0, 0, Nat.zero_le _, rfl, rfl, rfl, HST.out⟩
  case round =>
    obtain ⟨k, j, hk, hj, rfl, rfl, hsm⟩ := hrel
    clear HST
    by_cases hlt : k < F.size / 64
    · have hjs : j + 64 ≤ F.size := by omega
      have h1 : (j : Int) < F.size := by omega
      have hnx : S2.chain F.data.toList (k + 1) = S2.press (S2.chain F.data.toList k) ((F.data.toList.drop (64 * k)).take 64) := rfl
      have hby : ∀ i, i < 64 → Sh.byteOr ((F.data.toList.drop (64 * k)).take 64) i = Sh.byteOr F.data.toList (j + i) := fun i hi => by rw [byteOr_block _ _ _ hi, hj]
      generalize S2.chain F.data.toList k = X at *
      generalize (F.data.toList.drop (64 * k)).take 64 = B at *
      have HNX := Lib.hid hnx
      have HBY := Lib.hid hby
      have HJ := Lib.hid hj
      have hsw := Sw.start hsm
      have HSW := Lib.hid hsw
      clear hnx hby hj hsw hsm
      go_wp2_with fail
      generalize hgw : wr.heap.size = gw at *
      clear hgw
      go_loopg [8] 16 (fun g i wx => ∃ t : Nat, t ≤ 16 ∧ g = 16 - t ∧ i = .int .i64 t ∧ Sw w wx gk gx gw X (S2.wordsTo B t))
      case atStart => exact ⟨0, Nat.zero_le _, rfl, rfl, HSW.out⟩
      case round =>
        obtain ⟨t, ht, rfl, rfl, hsw⟩ := hrel
        clear HSW
        by_cases htl : t < 16
        · as_aux_lemma =>
            have h2 : (t : Int) < 16 := by omega
            have hlen := S2.wordsTo_length B t
            have hnw : S2.wordsTo B (t + 1) = S2.wordsTo B t ++ [S2.word B t] := by rw [S2.wordsTo, if_pos htl]
            obtain ⟨q, hq⟩ : ∃ q, j + 4 * t = q := ⟨_, rfl⟩
            have hqF : q + 4 ≤ F.size := by omega
            have hwd : S2.word B t = Sh.byteOr F.data.toList q * 16777216 + Sh.byteOr F.data.toList (q + 1) * 65536 + Sh.byteOr F.data.toList (q + 2) * 256 + Sh.byteOr F.data.toList (q + 3) := by
              rw [S2.word, HBY.out _ (by omega), HBY.out _ (by omega), HBY.out _ (by omega), HBY.out _ (by omega), show j + 4 * t = q from hq, show j + (4 * t + 1) = q + 1 by omega, show j + (4 * t + 2) = q + 2 by omega, show j + (4 * t + 3) = q + 3 by omega]
            have k0 : q < F.size := by omega
            have k1 : q + 1 < F.size := by omega
            have k2 : q + 2 < F.size := by omega
            have k3 : q + 3 < F.size := by omega
            have d0 := byte_word F q k0
            have d1 := byte_word F (q + 1) k1
            have d2 := byte_word F (q + 2) k2
            have d3 := byte_word F (q + 3) k3
            generalize Sh.byteOr F.data.toList q = c0 at *
            generalize Sh.byteOr F.data.toList (q + 1) = c1 at *
            generalize Sh.byteOr F.data.toList (q + 2) = c2 at *
            generalize Sh.byteOr F.data.toList (q + 3) = c3 at *
            have hqi : (j : Int) + 4 * (t : Int) = (q : Int) := by omega
            have w0 : IntKind.i64.wrap (4 * (t : Int)) = 4 * (t : Int) := IntWalk.i64_in _ (by omega)
            have wq : IntKind.i64.wrap (q : Int) = (q : Int) := IntWalk.i64_in _ (by omega)
            have w1' : IntKind.i64.wrap ((q : Int) + 1) = (q : Int) + 1 := IntWalk.i64_in _ (by omega)
            have w2' : IntKind.i64.wrap ((q : Int) + 2) = (q : Int) + 2 := IntWalk.i64_in _ (by omega)
            have w3' : IntKind.i64.wrap ((q : Int) + 3) = (q : Int) + 3 := IntWalk.i64_in _ (by omega)
            have n1 : ((q : Int) + 1).toNat = q + 1 := by omega
            have n2 : ((q : Int) + 2).toNat = q + 2 := by omega
            have n3 : ((q : Int) + 3).toNat = q + 3 := by omega
            have i0' : (0 : Int) ≤ (q : Int) := by omega
            have i1 : (0 : Int) ≤ (q : Int) + 1 := by omega
            have i2 : (0 : Int) ≤ (q : Int) + 2 := by omega
            have i3 : (0 : Int) ≤ (q : Int) + 3 := by omega
            have b0 : (q : Int) < F.size := by omega
            have b1 : (q : Int) + 1 < F.size := by omega
            have b2 : (q : Int) + 2 < F.size := by omega
            have b3 : (q : Int) + 3 < F.size := by omega
            have v0 : IntKind.u32.wrap (tn c0) = tn c0 := by have := tn_lt c0; have := tn_nonneg c0; rw [IntKind.wrap_u32']; omega
            have v1 : IntKind.u32.wrap (tn c1) = tn c1 := by have := tn_lt c1; have := tn_nonneg c1; rw [IntKind.wrap_u32']; omega
            have v2 : IntKind.u32.wrap (tn c2) = tn c2 := by have := tn_lt c2; have := tn_nonneg c2; rw [IntKind.wrap_u32']; omega
            have v3 : IntKind.u32.wrap (tn c3) = tn c3 := by have := tn_lt c3; have := tn_nonneg c3; rw [IntKind.wrap_u32']; omega
            have y0 := m24 c0
            have y1 := m16 c1
            have y2 := m8 c2
            have htb : (0 : Int) ≤ t := by omega
            have ht64 : (t : Int) < 64 := by omega
            have hct := hsw.at_ (j := t) (by omega)
            have hcf := hsw.row.frozen t
            have HPUT := Lib.hid (hsw.put hlen (by omega) (S2.word B t))
            have HNW := Lib.hid hnw
            have HWD := Lib.hid hwd
            have HQ := Lib.hid hq
            generalize S2.wordsTo B t = L at *
            clear hsw hlen hnw hwd hq
            go_wp2_with fail
            refine wp_region_still_tail 27 (by kernel_rfl) (by kernel_rfl) ?_
            simp only [List.take_succ_cons, List.take_zero, List.drop_succ_cons, List.drop_zero]
            change wpStill _ _ (World.drew _) (fun a' => wpList _ _ _ _ a' (World.drew _)) _ _
            iterate 27 still_step
            refine wpStill_nil ?_
            go_wp2
            go_roundg (16 - (t + 1))
            case rel => exact ⟨t + 1, by omega, rfl, by go_num, by rw [HNW.out]; have h := HPUT.out.drew; rw [HWD.out] at h ⊢; exact h⟩
            case measure => omega
        · obtain rfl : t = 16 := by omega
          have HSW := Lib.hid hsw
          clear hsw
          go_wp2
          go_loopg [10] 48 (fun g i wx => ∃ t : Nat, 16 ≤ t ∧ t ≤ 64 ∧ g = 64 - t ∧ i = .int .i64 t ∧ Sw w wx gk gx gw X (S2.wordsTo B t))
          case atStart => exact ⟨16, Nat.le_refl _, by omega, rfl, rfl, HSW.out⟩
          case round =>
            obtain ⟨t, ht16, ht64, rfl, rfl, hsw⟩ := hrel
            clear HSW
            by_cases htl : t < 64
            · as_aux_lemma =>
                have h2 : (t : Int) < 64 := by omega
                have hlen := S2.wordsTo_length B t
                have hnw : S2.wordsTo B (t + 1) = S2.wordsTo B t ++ [(S2.wordsTo B t).getD (t - 16) 0 + S2.s0 ((S2.wordsTo B t).getD (t - 15) 0) + (S2.wordsTo B t).getD (t - 7) 0 + S2.s1 ((S2.wordsTo B t).getD (t - 2) 0)] := by rw [S2.wordsTo, if_neg (by omega)]
                generalize S2.wordsTo B t = L at *
                have a16 : (0 : Int) ≤ (t : Int) - 16 := by omega
                have b16 : (16 : Int) ≤ (t : Int) := by omega
                have e16 : (t : Int) - 16 < 64 := by omega
                have n16 : ((t : Int) - 16).toNat = t - 16 := by omega
                have w16 : IntKind.i64.wrap ((t : Int) - 16) = (t : Int) - 16 := IntWalk.i64_in _ (by omega)
                have c16 := hsw.at_ (j := t - 16) (by omega)
                have a15 : (0 : Int) ≤ (t : Int) - 15 := by omega
                have b15 : (15 : Int) ≤ (t : Int) := by omega
                have e15 : (t : Int) - 15 < 64 := by omega
                have n15 : ((t : Int) - 15).toNat = t - 15 := by omega
                have w15 : IntKind.i64.wrap ((t : Int) - 15) = (t : Int) - 15 := IntWalk.i64_in _ (by omega)
                have c15 := hsw.at_ (j := t - 15) (by omega)
                have a7 : (0 : Int) ≤ (t : Int) - 7 := by omega
                have b7 : (7 : Int) ≤ (t : Int) := by omega
                have e7 : (t : Int) - 7 < 64 := by omega
                have n7 : ((t : Int) - 7).toNat = t - 7 := by omega
                have w7 : IntKind.i64.wrap ((t : Int) - 7) = (t : Int) - 7 := IntWalk.i64_in _ (by omega)
                have c7 := hsw.at_ (j := t - 7) (by omega)
                have a2 : (0 : Int) ≤ (t : Int) - 2 := by omega
                have b2 : (2 : Int) ≤ (t : Int) := by omega
                have e2 : (t : Int) - 2 < 64 := by omega
                have n2 : ((t : Int) - 2).toNat = t - 2 := by omega
                have w2 : IntKind.i64.wrap ((t : Int) - 2) = (t : Int) - 2 := IntWalk.i64_in _ (by omega)
                have c2 := hsw.at_ (j := t - 2) (by omega)
                have ct := hsw.at_ (j := t) htl
                have cf := hsw.row.frozen t
                have h0 : (0 : Int) ≤ t := by omega
                have HPUT := Lib.hid (hsw.put hlen htl (L.getD (t - 16) 0 + S2.s0 (L.getD (t - 15) 0) + L.getD (t - 7) 0 + S2.s1 (L.getD (t - 2) 0)))
                have HNW := Lib.hid hnw
                clear hsw hlen hnw
                generalize L.getD (t - 16) 0 = x16 at *
                generalize L.getD (t - 15) 0 = x15 at *
                generalize L.getD (t - 7) 0 = x7 at *
                generalize L.getD (t - 2) 0 = x2 at *
                have z3 := tn_nonneg x15
                have z2 := tn_nonneg x2
                have z3' := tn_lt x15
                have z2' := tn_lt x2
                go_wp2_with fail
                refine wp_region_still_tail 47 (by kernel_rfl) (by kernel_rfl) ?_
                simp only [List.take_succ_cons, List.take_zero, List.drop_succ_cons, List.drop_zero]
                change wpStill _ _ (World.drew _) (fun a' => wpList _ _ _ _ a' (World.drew _)) _ _
                iterate 9 still_step
                still_call (turn_any _ 7 _ (by omega) (by omega))
                iterate 4 still_step
                still_call (turn_any _ 18 _ (by omega) (by omega))
                iterate 17 still_step
                still_call (turn_any _ 17 _ (by omega) (by omega))
                iterate 4 still_step
                still_call (turn_any _ 19 _ (by omega) (by omega))
                iterate 9 still_step
                refine wpStill_nil ?_
                go_wp2
                go_roundg (64 - (t + 1))
                case rel => exact ⟨t + 1, by omega, by omega, rfl, by go_num, by rw [HNW.out, word_form]; exact HPUT.out.drew⟩
                case measure => omega
            · obtain rfl : t = 64 := by omega
              have f0 := hsw.fld (j := 0) (by omega)
              have f1 := hsw.fld (j := 1) (by omega)
              have f2 := hsw.fld (j := 2) (by omega)
              have f3 := hsw.fld (j := 3) (by omega)
              have f4 := hsw.fld (j := 4) (by omega)
              have f5 := hsw.fld (j := 5) (by omega)
              have f6 := hsw.fld (j := 6) (by omega)
              have f7 := hsw.fld (j := 7) (by omega)
              simp only [S2.fld] at f0 f1 f2 f3 f4 f5 f6 f7
              have HSW := Lib.hid hsw.drew
              have hpx : S2.press X B = S2.add X (S2.stepsTo (S2.wordsTo B 64) X 64) := rfl
              have hss : ∀ t, S2.stepsTo (S2.wordsTo B 64) X (t + 1) = S2.step (S2.stepsTo (S2.wordsTo B 64) X t) (S2.keys.getD t 0) ((S2.wordsTo B 64).getD t 0) := fun t => rfl
              have hs0 : S2.stepsTo (S2.wordsTo B 64) X 0 = X := rfl
              generalize S2.wordsTo B 64 = L at *
              have HPX := Lib.hid hpx
              have HSS := Lib.hid hss
              have HS0 := Lib.hid hs0
              clear hsw hpx hss hs0
              go_wp2_with fail
              refine wp_region_still_lit (by kernel_rfl) (by kernel_rfl) ?_
              change wpStill _ _ (World.drew _) (fun a' => Exit.then _ _ _ a' (World.drew _)) _ _
              iterate 24 still_step
              refine wpStill_nil ?_
              go_wp2_with fail
              go_loopg [11, 12, 13, 14, 15, 16, 17, 18, 19] 64 (fun g va vb vc vd ve vf vg vh i wx => ∃ (t : Nat) (y : S2.Ch), t ≤ 64 ∧ g = 64 - t ∧ i = .int .i64 t ∧ Sw w wx gk gx gw X L ∧ y = S2.stepsTo L X t ∧ va = .int .u32 (tn y.a) ∧ vb = .int .u32 (tn y.b) ∧ vc = .int .u32 (tn y.c) ∧ vd = .int .u32 (tn y.d) ∧ ve = .int .u32 (tn y.e) ∧ vf = .int .u32 (tn y.f) ∧ vg = .int .u32 (tn y.g) ∧ vh = .int .u32 (tn y.h))
              case atStart => exact ⟨0, X, Nat.zero_le _, rfl, rfl, HSW.out, HS0.out.symm, rfl, rfl, rfl, rfl, rfl, rfl, rfl, rfl⟩
              case round =>
                obtain ⟨t, ⟨ya, yb, yc, yd, ye, yf, yg, yh⟩, ht, rfl, rfl, hsw, hy, rfl, rfl, rfl, rfl, rfl, rfl, rfl, rfl⟩ := hrel
                clear HSW f0 f1 f2 f3 f4 f5 f6 f7
                have HY := Lib.hid hy
                clear hy
                by_cases htl : t < 64
                · as_aux_lemma =>
                    have h2 : (t : Int) < 64 := by omega
                    have h0 : (0 : Int) ≤ t := by omega
                    have hkn : ((t : Int)).toNat = t := by omega
                    have ck := hsw.key (j := t) htl
                    have cw := hsw.at_ (j := t) htl
                    have hnx := HSS.out t
                    generalize S2.keys.getD t 0 = kk at *
                    generalize L.getD t 0 = v at *
                    rw [← HY.out] at hnx
                    have HNX2 := Lib.hid hnx
                    have HSW := Lib.hid hsw.drew
                    clear hnx hsw
                    go_wp2_with fail
                    refine wp_region_still_lit (by kernel_rfl) (by kernel_rfl) ?_
                    change wpStill _ _ (World.drew _) (fun a' => Exit.then _ _ _ a' (World.drew _)) _ _
                    iterate 2 still_step
                    still_call (turn_any _ 6 _ (by omega) (by omega))
                    iterate 1 still_step
                    still_call (turn_any _ 11 _ (by omega) (by omega))
                    iterate 2 still_step
                    still_call (turn_any _ 25 _ (by omega) (by omega))
                    iterate 20 still_step
                    refine wpStill_nil ?_
                    go_wp2_with (first
                      | (go_at_call 42; with_reducible refine (turn_lit2 _ _).mono ?_; rintro e w' ⟨rfl, hw⟩; rw [hw]; clear hw)
                      | (go_at_call 42; with_reducible refine (turn_lit13 _ _).mono ?_; rintro e w' ⟨rfl, hw⟩; rw [hw]; clear hw)
                      | (go_at_call 42; with_reducible refine (turn_lit22 _ _).mono ?_; rintro e w' ⟨rfl, hw⟩; rw [hw]; clear hw))
                    go_roundg (64 - (t + 1))
                    case rel => exact ⟨t + 1, S2.step ⟨ya, yb, yc, yd, ye, yf, yg, yh⟩ kk v, by omega, rfl, by go_num, HSW.out, HNX2.out.symm, rfl, rfl, rfl, rfl, rfl, rfl, rfl, rfl⟩
                    case measure => omega
                · obtain rfl : t = 64 := by omega
                  have hpr : S2.chain F.data.toList (k + 1) = S2.add X ⟨ya, yb, yc, yd, ye, yf, yg, yh⟩ := by rw [HNX.out, HPX.out, HY.out]
                  have HPR := Lib.hid hpr
                  have HSA := Lib.hid (Sa.start hsw.toSm ⟨ya, yb, yc, yd, ye, yf, yg, yh⟩)
                  clear hsw hpr HSS HS0 HPX
                  go_wp2_with fail
                  generalize hgy : wr.heap.size = gy at *
                  clear hgy
                  go_loopg [23] 8 (fun g i wx => ∃ n : Nat, n ≤ 8 ∧ g = 8 - n ∧ i = .int .i64 n ∧ Sa w wx gk gx gy X ⟨ya, yb, yc, yd, ye, yf, yg, yh⟩ n)
                  case atStart => exact ⟨0, Nat.zero_le _, rfl, rfl, HSA.out⟩
                  case round =>
                    obtain ⟨n, hn, rfl, rfl, hsa⟩ := hrel
                    clear HSA
                    by_cases hnl : n < 8
                    · as_aux_lemma =>
                        have h2 : (n : Int) < 8 := by omega
                        have h0 : (0 : Int) ≤ n := by omega
                        have c1 : wr.cell? ⟨gx, n, none⟩ = some (.int .u32 (tn (S2.fld X n))) := by rw [hsa.row.cell hnl, if_neg (by omega)]
                        have c2 : wr.cell? ⟨gy, n, none⟩ = some (.int .u32 (tn (S2.fld ⟨ya, yb, yc, yd, ye, yf, yg, yh⟩ n))) := by rw [cell_of_row _ _ n _ _ _ hsa.yr]; exact c8_get _ n hnl
                        have hf := hsa.row.frozen n
                        have HPUT := Lib.hid (hsa.put hnl rfl)
                        clear hsa
                        generalize S2.fld X n = xv at *
                        generalize S2.fld ⟨ya, yb, yc, yd, ye, yf, yg, yh⟩ n = yv at *
                        go_wp2_with fail
                        refine wp_region_still_tail 9 (by kernel_rfl) (by kernel_rfl) ?_
                        simp only [List.take_succ_cons, List.take_zero, List.drop_succ_cons, List.drop_zero]
                        change wpStill _ _ (World.drew _) (fun a' => wpList _ _ _ _ a' (World.drew _)) _ _
                        iterate 9 still_step
                        refine wpStill_nil ?_
                        go_wp2
                        go_roundg (8 - (n + 1))
                        case rel => exact ⟨n + 1, by omega, rfl, by go_num, HPUT.out.drew⟩
                        case measure => omega
                    · obtain rfl : n = 8 := by omega
                      have HD := Lib.hid hsa.done
                      clear hsa
                      go_wp2
                      go_roundg (F.size / 64 - (k + 1))
                      case rel => exact ⟨k + 1, j + 64, by omega, by have := HJ.out; omega, rfl, by go_num, by rw [HPR.out]; exact HD.out⟩
                      case measure => omega
    · obtain rfl : k = F.size / 64 := by omega
      have h1 : ¬ (j : Int) < F.size := by have := H64.out; omega
      generalize S2.chain F.data.toList (F.size / 64) = X at *
      have hgb : gx < wr.heap.size := hsm.ltx
      have HS := Lib.hid hsm
      clear hsm hj
      go_wp2
      have HGB := Lib.hid hgb
      obtain ⟨gb, hgbe⟩ : ∃ gb, wr.heap.size = gb := ⟨_, rfl⟩
      have hgbx : gx < gb := by omega
      have KG := Lib.hid (show gk < gb by have := HS.out.ltk; omega)
      have hgbw : w.heap.size ≤ gb := by have := HS.out.below.size; omega
      have HGE := Lib.hid (show gb ≤ wr.heap.size by omega)
      clear hgbe hgb
      go_loopg [24, 25] 8 (fun gg v i wx => ∃ n : Nat, n ≤ 8 ∧ gg = 8 - n ∧ i = .int .i64 n ∧ Sm w wx gk gx X ∧ gb ≤ wx.heap.size ∧ wx.ownsRow gb 5 1 v (4 * n) ((S2.told X n).map fun c => .int .u8 c.toNat))
      case atStart => exact ⟨0, Nat.zero_le _, rfl, rfl, HS.out, HGE.out, World.ownsRow_nil _ _ _ _⟩
      case round =>
        obtain ⟨n, hn, rfl, rfl, hsm, hgbl, hown⟩ := hrel
        clear HS HGE HGB
        by_cases hnl : n < 8
        · as_aux_lemma =>
            have h2 : (n : Int) < 8 := by omega
            have h0 : (0 : Int) ≤ n := by omega
            have hc := hsm.fld (j := n) hnl
            have hnx : S2.told X (n + 1) = S2.told X n ++ S2.be4 (S2.fld X n) := rfl
            generalize S2.fld X n = x at *
            generalize hxs : ((S2.told X n).map fun c => Value.int .u8 c.toNat) = xs at *
            have HX := Lib.hid hxs
            have HNX := Lib.hid hnx
            have HO := Lib.hid hown
            have HS := Lib.hid hsm
            have hgl := hsm.ltx
            clear hxs hnx hown hsm
            have hx0 := tn_nonneg x
            have hx1 := tn_lt x
            obtain ⟨b0, b1, b2, b3, hbe, q0, q1, q2, q3⟩ := be4_parts2 x
            have HBE := Lib.hid hbe
            have hne : u24.ownBlock ≠ some gx := fun e => by have := (HO.out.lt gx e).1; omega
            have hnk : u24.ownBlock ≠ some gk ∨ True := .inr trivial
            have HF := Lib.hid hne
            clear hbe hne hnk
            go_wp2_with fail
            go_region_held3 (fun w' => w'.cell? ⟨gx, n, none⟩ = some (.int .u32 (tn x))) (first | go_keep | (rw [grown_cell2 hgrow (p := ⟨gx, n, none⟩) (by simp; omega) HF.out]; assumption))
              (first | (refine step_append_lies _ (by rfl) _ _ _ (by rfl) gb 5 i0 _ 1 1 Tryz.underlying54 HI.out.1 HI.out.2.1 HI.out.2.2.1 HI.out.2.2.2 rfl (by omega) u24 (4 * n) xs (by rfl) ((HO.out.alloc _).drew) ⟨wr.heap.size, 0, none⟩ 4 4 [.int .u8 b0.toNat, .int .u8 b1.toNat, .int .u8 b2.toNat, .int .u8 b3.toNat] (by rfl) (by rfl) (World.news_of_block (cs := #[.int .u8 b0.toNat, .int .u8 b1.toNat, .int .u8 b2.toNat, .int .u8 b3.toNat]) (t := 5) (fr := (0, 0)) (heap_alloc_new wr _)) (by simp [Value.oneCell']) (by omega) (by unfold maxLen; omega) (by omega) (by simp; omega) (wr.heap.size + 1) (by simp) ?_; intro gg cap w1 hown1 hgrow hat hlt1))
            have hsm1 : Sm w w1 gk gx X := by
              have h3 := (HS.out.alloc (.cells #[.int .u8 b0.toNat, .int .u8 b1.toNat, .int .u8 b2.toNat, .int .u8 b3.toNat] 5)).drew
              refine ⟨h3.below.grown hgrow h3.below.size (fun i hi => Nat.le_trans hgbw (HO.out.lt i hi).1), h3.lok, h3.lox, h3.ne, ?_, ?_⟩
              · rw [hgrow.block gk h3.ltk (fun e => by have := (HO.out.lt gk e.symm).1; have := KG.out; omega)]; exact h3.kr
              · rw [hgrow.block gx h3.ltx (fun e => HF.out e.symm)]; exact h3.xr
            have hown2 : w1.ownsRow gb 5 1 (.slice (some ⟨gg, 0, none⟩) (4 * n + 4) cap) (4 * (n + 1)) ((S2.told X (n + 1)).map fun c => .int .u8 c.toNat) := by
              rw [HNX.out, List.map_append, HX.out, HBE.out]
              exact hown1
            have hgbl1 : gb ≤ w1.heap.size := Nat.le_trans hgbl (Nat.le_trans (by simp) hgrow.size)
            have HS1 := Lib.hid hsm1
            have HO2 := Lib.hid hown2
            clear hsm1 hown2 hown1 hgrow hat hlt1
            go_wp2
            go_roundg (8 - (n + 1))
            case rel => exact ⟨n + 1, by omega, rfl, by go_num, HS1.out, hgbl1, HO2.out⟩
            case measure => omega
        · obtain rfl : n = 8 := by omega
          have hconv := own_text2 hown
          rw [← HSUM.out] at hconv
          have hbl := hsm.below
          clear hown hsm
          go_wp2
          go_ret
          exact ⟨rfl, hbl⟩
end Go.Proofs.YtmbbigmnliiadaaGreatDoor.Hs
