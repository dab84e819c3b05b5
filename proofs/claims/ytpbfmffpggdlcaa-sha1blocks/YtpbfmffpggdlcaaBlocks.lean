/-
  Proved: Sha1Blocks returns true for every text, and changes nothing that was there: the chain goes on block by block, and the digest's bytes are the chain's.
  Conditions: none beside the row's own.
-/
import Derived.Test.YtpbfmffpggdlcaaBl
import Derived.Test.YtpbfmffpggdlcaaP
namespace Go.Proofs.Ytpbfmffpggdlcaa.sha1Blocks
open Go.ChangeShapes Go.WideShapes Go.ChangeAt Go.RowKit
open Go.ChangeMaps (open_string)
set_option linter.unusedVariables false

open Hs Hp
attribute [local go_sem] t_and t_or t_xor t_not t_add t_sub t_add_wrap t_sub_wrap
set_option maxHeartbeats 2000000 in
set_option maxRecDepth 100000 in
theorem walk (a : ByteArray) (ws : a.size ≤ maxLen) (w : World) : Calls Try.prog 6 #[.string a] w fun e w' => e = .returned (.bool true) ∧ Below w.heap.size w w' := by
  go_enter Try.func6, Try.ntmps6
  go_wp2_with fail
  refine (Hp.awake_any _).mono ?_
  rintro e1 w1 ⟨rfl, hb1⟩
  by_cases hs : a.size ≤ 2000
  · have h1 : ¬ (2000 : Int) < a.size := by omega
    have hal : a.data.toList.length = a.size := by simp
    obtain ⟨K, hK⟩ : ∃ K, Sh.nought a.size = K := ⟨_, rfl⟩
    have hK64 : K < 64 := by rw [← hK]; exact Nat.mod_lt _ (by omega)
    have hnt : ∀ k, k < K → (a.size + 1 + k) % 64 ≠ 56 := fun k hk => by rw [← hK] at hk; unfold Sh.nought at hk; omega
    have hnz : (a.size + 1 + K) % 64 = 56 := by rw [← hK]; unfold Sh.nought; omega
    have hfl : Sh.fill a.data.toList = Sh.pad a.data.toList K ++ Sh.highs (a.size * 8) 8 := by rw [Sh.fill, hal, hK]
    have hfs : (Sh.fill a.data.toList).length = a.size + 1 + K + 8 := by rw [hfl, List.length_append, Sh.pad_length, Sh.highs_length, hal]
    have HAL := Lib.hid hal
    have HNT := Lib.hid hnt
    have HNZ := Lib.hid hnz
    have HFL := Lib.hid hfl
    have HFS := Lib.hid hfs
    have hp0 : (a ++ ⟨#[128]⟩ : ByteArray).data.toList = Sh.pad a.data.toList 0 := by rw [text_snoc]; simp [Sh.pad]
    have HP0 := Lib.hid hp0
    clear hal hnt hnz hfl hfs hK hp0
    have wu8 : IntKind.u64.wrap ((a.size : Int) * 8) = (a.size : Int) * 8 := by rw [u64_wrap]; omega
    go_wp2_with fail
    go_loopg [4] K (fun g s4 wr => ∃ (k : Nat) (T : ByteArray), k ≤ K ∧ g = K - k ∧ s4 = .string T ∧ T.data.toList = Sh.pad a.data.toList k ∧ wr = w1)
    case atStart => exact ⟨0, _, Nat.zero_le _, rfl, rfl, HP0.out, rfl⟩
    case round =>
      obtain ⟨k, T, hk, rfl, rfl, hT, rfl⟩ := hrel
      clear HP0
      have hTs : T.size = a.size + 1 + k := by rw [show T.size = T.data.toList.length by simp, hT, Sh.pad_length, HAL.out]
      have hT3 : T.size ≤ 3000 := by omega
      by_cases hlt : k < K
      · have ht : ((T.size : Int) % 64 != 56) = true := by have := HNT.out k hlt; simp; omega
        have HT := Lib.hid (show (T ++ ⟨#[0]⟩ : ByteArray).data.toList = Sh.pad a.data.toList (k + 1) by rw [text_snoc, hT, Sh.pad_succ])
        clear hT hTs
        go_wp2
        go_roundg (K - (k + 1))
        case rel => exact ⟨k + 1, _, by omega, rfl, rfl, HT.out, rfl⟩
        case measure => omega
      · obtain rfl : k = K := by omega
        have ht : ((T.size : Int) % 64 != 56) = false := by have := HNZ.out; simp; omega
        have HT := Lib.hid hT
        clear hT hTs
        go_wp2
        go_loopg [4, 5] 8 (fun g s4 i wx => ∃ (j : Nat) (x : Int) (T : ByteArray), j ≤ 8 ∧ g = j ∧ x = (j : Int) - 1 ∧ i = .int .i64 x ∧ s4 = .string T ∧ T.data.toList = Sh.pad a.data.toList k ++ Sh.highs (a.size * 8) (8 - j) ∧ Below w.heap.size w wx)
        case atStart => exact ⟨8, 7, T, Nat.le_refl _, rfl, rfl, rfl, rfl, by rw [HT.out]; simp [Sh.highs], hb1⟩
        case round =>
          obtain ⟨j, x, T, hj, rfl, hx, rfl, rfl, hT, hbl⟩ := hrel
          clear HT ht hT3
          have hTs : T.size = a.size + 1 + k + (8 - gk) := by rw [show T.size = T.data.toList.length by simp, hT, List.length_append, Sh.pad_length, Sh.highs_length, HAL.out]
          have hT3 : T.size ≤ 3000 := by omega
          cases gk with
          | zero =>
            obtain rfl : x = -1 := by omega
            clear hx hTs
            have hTF : T.data.toList = Sh.fill a.data.toList := by rw [hT, HFL.out]
            have hF64 : T.size % 64 = 0 := by rw [show T.size = T.data.toList.length by simp, hTF]; exact Sh.fill_length _
            have hsum : Sh.sum a.data.toList = Sh.told (Sh.chain T.data.toList (T.size / 64)) 5 := by rw [Sh.sum, hTF, show T.size = T.data.toList.length by simp, hTF]
            have HSUM := Lib.hid hsum
            have H64 := Lib.hid hF64
            have HBL := Lib.hid hbl
            clear hT hTF hsum hF64 hbl HFL HFS HNZ HNT
            go_wp2_with fail
            refine (first_any _).mono ?_
            rintro e2 w2 ⟨rfl, hb2⟩
            have hnew := heap_alloc_new w2 (.cells #[.int .u32 0, .int .u32 0, .int .u32 0, .int .u32 0, .int .u32 0] 28)
            have hst : Su8 w ((w2.alloc (.cells #[.int .u32 0, .int .u32 0, .int .u32 0, .int .u32 0, .int .u32 0] 28)).setRow w2.heap.size (cs Sh.first)) w2.heap.size Sh.first := by
              have hbw := HBL.out.trans (hb2.mono HBL.out.size)
              exact ⟨below_setRow (hbw.alloc hbw.size _) hbw.size _, hbw.size, setRow_heap _ _ _ _ _ _ hnew⟩
            have HNEW := Lib.hid hnew
            have HST := Lib.hid hst
            clear hnew hst hb2 HBL
            go_wp2_with (with_reducible refine wpList_store_row rfl 28 (.tmp 6) (.tmp 41) rfl w2.heap.size _ rfl rfl 28 _ HNEW.out (info28c _) (zero_size _) (cs_one _) ?_)
            clear HNEW
            generalize hgg : w2.heap.size = g at *
            clear hgg
            go_loopg [7] (T.size / 64) (fun gk i wr => ∃ (k j : Nat), k ≤ T.size / 64 ∧ j = 64 * k ∧ gk = T.size / 64 - k ∧ i = .int .i64 j ∧ Su8 w wr g (Sh.chain T.data.toList k))
            case atStart => exact ⟨0, 0, Nat.zero_le _, rfl, rfl, rfl, HST.out⟩
            case round =>
              obtain ⟨q, j, hq, hj, rfl, rfl, hsu⟩ := hrel
              clear HST
              by_cases hlt : q < T.size / 64
              · have hjs : j + 64 ≤ T.size := by omega
                have HJ := Lib.hid hj
                clear hj
                have h1 : (j : Int) < T.size := by omega
                have h2 : (0 : Int) ≤ j := by omega
                have h3 : (j : Int) ≤ T.size := by omega
                have hnx := chain_next T.data.toList q
                generalize Sh.chain T.data.toList q = X at *
                have HNX := Lib.hid hnx
                have HS := Lib.hid hsu
                clear hnx hsu
                go_wp2_with fail
                refine wp_region_any (by kernel_rfl) ?_
                change wpAny _ _ _ _ _ _ _ (World.drew _)
                refine wpAny_take (i := 1) (v := .string T) rfl (by kernel_rfl) (by kernel_rfl) (by kernel_rfl) (fun _ _ _ h => h) (Or.inl ⟨by rfl, fun w => by go_simp⟩) ?_
                go_simp
                refine wpAny_take (i := 2) (v := .int .i64 j) rfl (by kernel_rfl) (by kernel_rfl) (by kernel_rfl) (fun _ _ _ h => h) (Or.inl ⟨by rfl, fun w => by go_simp⟩) ?_
                go_simp
                refine wpAny_take (i := 3) (v := .string (T.extract j T.size)) rfl (by kernel_rfl) (by kernel_rfl) (by kernel_rfl) (fun _ _ _ h => h) (Or.inl ⟨by rfl, fun w => by go_simp⟩) ?_
                go_simp
                refine wpAny_ready (rs := [0]) (by kernel_rfl) (by simp) ?_
                refine AllReady.cons rfl (fun K hK => ?_) AllReady.nil
                rw [if_pos (by rfl)]
                refine wp_load_row 28 (.tmp 6) rfl g rfl 28 (cs X) (0, 0) _ HS.out.row Try.underlying28 rfl (info28c X) ?_
                refine hK _ _ ?_
                clear hK K
                go_simp
                refine wpAny_ready (rs := [4]) (by kernel_rfl) (by simp) ?_
                refine AllReady.cons rfl (fun K hK => ?_) AllReady.nil
                go_simp
                refine (press_any X (T.extract j T.size) _ (by rw [ByteArray.size_extract]; omega)).mono ?_
                have hlist : (T.extract j T.size).data.toList = T.data.toList.drop (64 * q) := by rw [extract_list, ← HJ.out, List.take_of_length_le (by simp)]
                generalize (T.extract j T.size).data.toList = L at *
                have HLI := Lib.hid hlist
                clear hlist
                rintro e w3 ⟨rfl, hb3⟩
                refine hK _ _ ?_
                clear hK K
                refine wpAny_ready (rs := [5]) (by kernel_rfl) (by simp) ?_
                refine AllReady.cons rfl (fun K hK => ?_) AllReady.nil
                rw [if_pos (by rfl)]
                refine wp_store_row 28 (.tmp 6) (.tmp 52) rfl g _ rfl rfl 28 (cs X) (by rw [hb3.block _ HS.out.lt]; exact HS.out.row) (info28c _) (cs_sizes _ _) (cs_one _) ?_
                refine hK _ _ ?_
                clear hK K
                go_simp
                refine wpAny_done (by kernel_rfl) ?_ _
                have HSN := Lib.hid (HS.out.step hb3 (Sh.press X L))
                clear hb3
                go_wp2
                go_roundg (T.size / 64 - (q + 1))
                case rel =>
                  have e1 : Sh.chain T.data.toList (q + 1) = Sh.press X L := by rw [HNX.out, HLI.out]
                  refine ⟨q + 1, j + 64, by omega, by have := HJ.out; omega, rfl, ?_, ?_⟩
                  · go_num
                  · rw [e1]
                    exact HSN.out
                case measure => omega
              · obtain rfl : q = T.size / 64 := by omega
                have h1 : ¬ (j : Int) < T.size := by have := H64.out; omega
                generalize Sh.chain T.data.toList (T.size / 64) = X at *
                have hs1 := Hp.sum_one a wr (by omega)
                have HS := Lib.hid hsu
                clear hsu hj
                go_wp2_with fail
                refine hs1.mono ?_
                rintro e5 w5 ⟨rfl, hb5⟩
                have hsu5 := HS.out.more hb5
                have HS5 := Lib.hid hsu5
                rw [HSUM.out]
                have hDl := Sh.told_length X 5
                obtain ⟨D, hD⟩ : ∃ D : ByteArray, (⟨(Sh.told X 5).toArray⟩ : ByteArray) = D := ⟨_, rfl⟩
                have hDd : D.data.toList = Sh.told X 5 := by rw [← hD]
                have hD20 : D.size = 20 := by rw [show D.size = D.data.toList.length by simp, hDd, hDl]
                rw [hD]
                clear hDl hD hsu5 hb5 hs1 HSUM
                have HDD := Lib.hid hDd
                clear hDd
                go_wp2_with fail
                go_loopg [9] 5 (fun gk i wx => ∃ k : Nat, k ≤ 5 ∧ gk = 5 - k ∧ i = .int .i64 k ∧ Su8 w wx g X)
                case atStart => exact ⟨0, Nat.zero_le _, rfl, rfl, HS5.out⟩
                case round =>
                  obtain ⟨k, hk, rfl, rfl, hsu⟩ := hrel
                  clear HS HS5
                  by_cases hlt : k < 5
                  · have h1 : (k : Int) < 5 := by omega
                    have h0 : (0 : Int) ≤ k := by omega
                    have hkn : ((k : Int)).toNat = k := by omega
                    obtain ⟨b0, b1, b2, b3, hbe, hor⟩ := be4_or (fld X k)
                    have hget : ∀ j, j < 4 → D.data.toList.getD (4 * k + j) 0 = ([b0, b1, b2, b3] : List UInt8).getD j 0 := fun j hj => by rw [HDD.out, told_get X 5 k j hlt hj, hbe]
                    have hin : ∀ j, (hj : j < 4) → (D[4 * k + j]'(by omega)).toNat = (([b0, b1, b2, b3] : List UInt8).getD j 0).toNat := fun j hj => by
                      rw [← hget j hj, List.getD_eq_getElem?_getD, List.getElem?_eq_getElem (by simp; omega)]; rfl
                    have k0 : 4 * k < D.size := by omega
                    have k1 : 4 * k + 1 < D.size := by omega
                    have k2 : 4 * k + 2 < D.size := by omega
                    have k3 : 4 * k + 3 < D.size := by omega
                    have d0 : (D[4 * k].toNat : Int) = (b0.toNat : Int) := congrArg (fun n : Nat => (n : Int)) (hin 0 (by omega))
                    have d1 : (D[4 * k + 1].toNat : Int) = (b1.toNat : Int) := congrArg (fun n : Nat => (n : Int)) (hin 1 (by omega))
                    have d2 : (D[4 * k + 2].toNat : Int) = (b2.toNat : Int) := congrArg (fun n : Nat => (n : Int)) (hin 2 (by omega))
                    have d3 : (D[4 * k + 3].toNat : Int) = (b3.toNat : Int) := congrArg (fun n : Nat => (n : Int)) (hin 3 (by omega))
                    have q0 : b0.toNat < 256 := UInt8.toNat_lt _
                    have q1 : b1.toNat < 256 := UInt8.toNat_lt _
                    have q2 : b2.toNat < 256 := UInt8.toNat_lt _
                    have q3 : b3.toNat < 256 := UInt8.toNat_lt _
                    have n0 : (4 * (k : Int)).toNat = 4 * k := by omega
                    have n1 : (4 * (k : Int) + 1).toNat = 4 * k + 1 := by omega
                    have n2 : (4 * (k : Int) + 2).toNat = 4 * k + 2 := by omega
                    have n3 : (4 * (k : Int) + 3).toNat = 4 * k + 3 := by omega
                    have u0' : 4 * (k : Int) < 20 := by omega
                    have u1' : 4 * (k : Int) + 1 < 20 := by omega
                    have u2' : 4 * (k : Int) + 2 < 20 := by omega
                    have u3' : 4 * (k : Int) + 3 < 20 := by omega
                    have i0 : (0 : Int) ≤ 4 * (k : Int) := by omega
                    have i1 : (0 : Int) ≤ 4 * (k : Int) + 1 := by omega
                    have i2 : (0 : Int) ≤ 4 * (k : Int) + 2 := by omega
                    have i3 : (0 : Int) ≤ 4 * (k : Int) + 3 := by omega
                    have w0 : IntKind.i64.wrap (4 * (k : Int)) = 4 * (k : Int) := IntWalk.i64_in _ (by omega)
                    have w1' : IntKind.i64.wrap (4 * (k : Int) + 1) = 4 * (k : Int) + 1 := IntWalk.i64_in _ (by omega)
                    have w2' : IntKind.i64.wrap (4 * (k : Int) + 2) = 4 * (k : Int) + 2 := IntWalk.i64_in _ (by omega)
                    have w3' : IntKind.i64.wrap (4 * (k : Int) + 3) = 4 * (k : Int) + 3 := IntWalk.i64_in _ (by omega)
                    have hc : wr.cell? ⟨g, k, none⟩ = some (.int .u32 (tn (fld X k))) := by rw [cell_of_row _ _ k _ _ _ hsu.row]; exact cs_get X k hlt
                    generalize fld X k = x at *
                    generalize b0.toNat = c0 at *
                    generalize b1.toNat = c1 at *
                    generalize b2.toNat = c2 at *
                    generalize b3.toNat = c3 at *
                    have v0 : IntKind.u32.wrap (c0 : Int) = c0 := by rw [IntKind.wrap_u32']; omega
                    have v1 : IntKind.u32.wrap (c1 : Int) = c1 := by rw [IntKind.wrap_u32']; omega
                    have v2 : IntKind.u32.wrap (c2 : Int) = c2 := by rw [IntKind.wrap_u32']; omega
                    have v3 : IntKind.u32.wrap (c3 : Int) = c3 := by rw [IntKind.wrap_u32']; omega
                    have y0 : IntKind.u32.wrap ((c0 : Int) * 16777216) = (c0 : Int) * 16777216 := by rw [IntKind.wrap_u32']; omega
                    have y1 : IntKind.u32.wrap ((c1 : Int) * 65536) = (c1 : Int) * 65536 := by rw [IntKind.wrap_u32']; omega
                    have y2 : IntKind.u32.wrap ((c2 : Int) * 256) = (c2 : Int) * 256 := by rw [IntKind.wrap_u32']; omega
                    have HS := Lib.hid hsu
                    clear hsu hget hin hbe
                    go_wp2_with fail
                    refine wp_region_still_lit (by kernel_rfl) (by kernel_rfl) ?_
                    change wpStill _ _ (World.drew _) (fun a' => Exit.then _ _ _ a' (World.drew _)) _ _
                    iterate 38 still_step
                    refine wpStill_nil ?_
                    go_wp2
                    go_roundg (5 - (k + 1))
                    case rel => exact ⟨k + 1, by omega, rfl, by go_num, ⟨HS.out.below.drew, HS.out.lo, HS.out.row⟩⟩
                    case measure => omega
                  · obtain rfl : k = 5 := by omega
                    have hbl := hsu.below
                    clear hsu
                    go_wp2
                    go_ret
                    exact ⟨rfl, hbl⟩
          | succ j =>
            obtain rfl : x = (j : Int) := by omega
            clear hx hTs
            have hsz := hbl.size
            have hyv := byte_of a.size j
            have hcv := conv_one wr (Sh.byteOf (a.size * 8) j) _ hyv
            have HT := Lib.hid (show (T ++ ⟨#[Sh.byteOf (a.size * 8) j]⟩ : ByteArray).data.toList = Sh.pad a.data.toList k ++ Sh.highs (a.size * 8) (8 - j) by
              rw [text_snoc, hT, show 8 - j = 8 - (j + 1) + 1 by omega, Sh.highs, show 7 - (8 - (j + 1)) = j by omega, List.append_assoc])
            have HBL := Lib.hid (hbl.alloc hsz (.cells #[.int .u8 ((a.size : Int) * 8 / 2 ^ (8 * j) % 256)] 5))
            have HYV := Lib.hid hyv
            clear hT hyv hbl
            go_wp2
            go_roundg j
            case rel => exact ⟨j, _, _, by omega, rfl, rfl, rfl, rfl, HT.out, HBL.out⟩
            case measure => omega
  · have h1 : (2000 : Int) < a.size := by omega
    go_wp2
    go_ret
    exact ⟨rfl, hb1⟩

theorem own : ownKnob Try.prog.godebug = none := by kernel_rfl

set_option maxRecDepth 100000 in
theorem lifted (os : Os) (started : os.Started) (H : Type) (enc : TypeId × Value → H) :
    ReturnsInHanded {} Try.checked os 6 .any (Rows.sha1BlocksSpec.pre6 enc Try.prog Try.f6 Rows.sha1BlocksRow.domain false) (Rows.sha1BlocksSpec.post enc Try.prog Try.f6 false true false false) := by
  refine returnsInHanded_of_change (C := Try.checked) own started (by kernel_rfl) Try.func6
    (ChangeSpec.witness6 (enc := enc) (C := Try.checked) false ⟨#[], #[.string ByteArray.empty], []⟩ 8 (by kernel_rfl) (by kernel_rfl) (by kernel_rfl) (by kernel_rfl)) ?_
  intro W base args ds gs before hval0 hW hcnd _
  have hval : ∀ (j : Nat) t v, Try.f6.params[j]? = some t → args[j]? = some v → Value.okWide Try.prog W .any base t v := hval0
  have hW' := hW
  obtain ⟨p, q, hA0, hV, rfl, hfz, hnd⟩ := hW
  have hA : DataW.TrodAll enc Try.prog W 0 (fun _ => true) true Try.f6.params.toList args.toList ds p := hA0
  rw [Try.params6] at hA hval
  obtain ⟨v0, vs0, d0, ds0, p0, q0, hargs, rfl, rfl, h0, r0⟩ := trodAll_cons hA
  obtain ⟨rfl, rfl, rfl⟩ := trodAll_nil r0
  obtain rfl : args = #[v0] := by cases args; simp_all
  obtain ⟨rfl, rfl⟩ := trodVars_none hV
  obtain ⟨a0, rfl, rfl, rfl, w0⟩ := open_string Try.underlying9 (hval 0 9 v0 rfl rfl) h0
  clear hA0 hval0
  refine (walk a0 w0 W).mono fun e W' ⟨he, hg⟩ => ?_
  subst he
  exact ⟨_, rfl, law_post Try.laid (by kernel_rfl) (by kernel_rfl) Try.underlying4 rfl rfl hW' hg⟩

theorem over : Rows.sha1BlocksRow.holds Try.pinned (OpenSpec.ofChange Rows.sha1BlocksSpec) :=
  OpenClaim.holds_of_wide 6 Try.f6 rfl rfl rfl rfl rfl rfl rfl ⟨rfl, rfl, rfl, rfl, rfl⟩ rfl rfl rfl rfl rfl (by kernel_rfl) Try.func6 (by kernel_rfl)
    (of_decide_eq_true (by kernel_rfl)) (by unfold Func.isWrapper; first | (rw [if_pos (by decide +kernel)]; kernel_rfl) | (rw [if_neg (by decide +kernel)]; exact ⟨rfl, rfl⟩))
    (fun os started H enc _ => lifted os started H enc)
end Go.Proofs.Ytpbfmffpggdlcaa.sha1Blocks

namespace Go.Proofs.Ytpbfmffpggdlcaa
theorem sha1Blocks_holds : Rows.Sha1BlocksSaid := sha1Blocks.over
end Go.Proofs.Ytpbfmffpggdlcaa
