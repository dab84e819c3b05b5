/-
  The contract of the document's Scan (layer 5).
-/
import Derived.Test.YtpffolohkmokhaaDx
import Derived.Test.YtpffolohkmokhaaDw
namespace Go.Proofs.Ytpffolohkmokhaa.Hd
open Go.RowKit Hs Hp
set_option linter.unusedVariables false

theorem yields_load_sub {P : Program} {ops : Array Oper} {S : World → Prop} {o : Oper} {a : Act} (ty : TypeId) (x : Operand) (ho : o.op = .load ty x) (hw : Region.wanted o (yielded ops a.tmps) = true) (g off : Nat) (hx : a.eval x = .pointer (some ⟨g, off, none⟩)) (cs : Array Value)
    (hl : ∀ W, S W → (loadVar ty ⟨g, off, none⟩).run P W = .ok (.agg cs) W) : YieldsIf P ops S o (.agg cs) a :=
  .inl ⟨hw, fun W hW => by simp only [execOp, ho, hx, Instr.loadAt, Instr.sureAddr, Sem.run_bind, Sem.run_pure, Result.andThen_ok, hl W hW]⟩
theorem blockHit_succ (X : Sh.Ch) (l : List UInt8) (n : Nat) : Dv.blockHit X l (n + 1) = (Dv.blockHit X l n || Dv.marked X l (Dv.vdiff n)) := by simp [Dv.blockHit, List.range_succ]
theorem vec_ok (n : Nat) (h : n < 21) : decide (Dv.ok (Dv.vecs.getD n (0, 0)).1 (Dv.vecs.getD n (0, 0)).2 0) = true := by
  have h' : ∀ m : Fin 21, decide (Dv.ok (Dv.vecs.getD m.val (0, 0)).1 (Dv.vecs.getD m.val (0, 0)).2 0) = true := by decide +kernel
  exact h' ⟨n, h⟩
/-- the state of Scan: the vectors, the chain -/
structure Sc (w wr : World) (g C : Nat) (X : Sh.Ch) : Prop where
  below : Below w.heap.size w wr
  lo : w.heap.size ≤ g
  mid : g < C
  vl : Vl wr g
  ch : wr.heap[C]? = some (.cells (cs X) 36 (0, 0))
section
variable {w wr w1 : World} {g C : Nat} {X : Sh.Ch}
theorem Sc.lt (h : Sc w wr g C X) : C < wr.heap.size := (Array.getElem?_eq_some_iff.1 h.ch).1
theorem Sc.drew (h : Sc w wr g C X) : Sc w wr.drew g C X := ⟨h.below.drew, h.lo, h.mid, h.vl, h.ch⟩
theorem Sc.more (h : Sc w wr g C X) (hb : Below wr.heap.size wr w1) : Sc w w1 g C X :=
  have hl := h.lt
  have hm := h.mid
  ⟨h.below.trans (hb.mono h.below.size), h.lo, hm, h.vl.below hb (by omega), by rw [hb.block _ hl]; exact h.ch⟩
theorem Sc.put (h : Sc w wr g C X) (Y : Sh.Ch) : Sc w (wr.setRow C (cs Y)) g C Y :=
  have hm := h.mid
  have hl := h.lo
  ⟨below_setRow h.below (by omega) _, hl, hm, h.vl.below (B := C) (below_setRow (Below.refl _ wr) (Nat.le_refl _) _) hm, setRow_heap _ _ (cs X) _ _ _ h.ch⟩
end

set_option maxHeartbeats 8000000 in
set_option maxRecDepth 100000 in
theorem rscan_any (s : ByteArray) (w : World) (hs : s.size ≤ 90000) :
    Calls Try.prog 12 #[.string s] w fun e w' => e = .returned (.tuple #[.string ⟨(Sh.sum s.data.toList).toArray⟩, .bool (Dv.scan s.data.toList)]) ∧ Below w.heap.size w w' := by
  have hfl : (Sh.fill s.data.toList).length ≤ 100000 := by
    rw [Sh.fill, List.length_append, Sh.pad_length, Sh.highs_length]
    have : Sh.nought s.data.toList.length < 64 := Nat.mod_lt _ (by omega)
    simp at this ⊢
    omega
  have HSM := Lib.hid (fun W => rsum_any s W hs)
  have HFL := Lib.hid (fun W => rfill_any s W (by omega))
  have hsc : Dv.scan s.data.toList = Dv.scanTo (Sh.fill s.data.toList) ((Sh.fill s.data.toList).length / 64) := rfl
  have h64 := Sh.fill_length s.data.toList
  generalize hF : (⟨(Sh.fill s.data.toList).toArray⟩ : ByteArray) = F at *
  have hFl : Sh.fill s.data.toList = F.data.toList := by rw [← hF]
  rw [hFl] at hsc h64 hfl
  have hFs : F.data.toList.length = F.size := by simp
  rw [hFs] at hsc h64 hfl
  generalize Dv.scan s.data.toList = res at *
  generalize (⟨(Sh.sum s.data.toList).toArray⟩ : ByteArray) = D at *
  have HSC := Lib.hid hsc
  have H64 := Lib.hid h64
  clear hsc h64 hF hFl hFs hs
  go_enter Try.func12, Try.ntmps12
  go_wp2_with fail
  refine (HFL.out _).mono ?_
  rintro e w1 ⟨rfl, hb1⟩
  go_wp2_with fail
  refine (rvectors_any _).mono ?_
  rintro e w2 ⟨rfl, hg2, hvl2, hb2⟩
  go_wp2_with fail
  refine (rfirst_any _).mono ?_
  rintro e w3 ⟨rfl, hb3⟩
  have hnew := heap_alloc_new w3 (.cells #[.int .u32 0, .int .u32 0, .int .u32 0, .int .u32 0, .int .u32 0] 36)
  have hb03 := (hb1.trans (hb2.mono hb1.size)).trans (hb3.mono (by have := hb1.size; have := hb2.size; omega))
  have hbl : Below w3.heap.size w3 ((w3.alloc (.cells #[.int .u32 0, .int .u32 0, .int .u32 0, .int .u32 0, .int .u32 0] 36)).setRow w3.heap.size (cs Sh.first)) := below_setRow ((Below.refl _ w3).alloc (Nat.le_refl _) _) (Nat.le_refl _) _
  have hg3 : w1.heap.size < w3.heap.size := Nat.lt_of_lt_of_le hg2 hb3.size
  have hst : Sc w ((w3.alloc (.cells #[.int .u32 0, .int .u32 0, .int .u32 0, .int .u32 0, .int .u32 0] 36)).setRow w3.heap.size (cs Sh.first)) w1.heap.size w3.heap.size Sh.first :=
    ⟨hb03.trans (hbl.mono hb03.size), hb1.size, hg3, (hvl2.below hb3 hg2).below hbl hg3, setRow_heap _ _ _ _ _ _ hnew⟩
  have HNEW := Lib.hid hnew
  have HST := Lib.hid hst
  clear hnew hst hb1 hb2 hb3 hb03 hbl hvl2 hg2 hg3 HFL
  go_wp2_with (with_reducible refine wpList_store_row rfl 36 (.tmp 6) (.tmp 13) rfl w3.heap.size _ rfl rfl 36 _ HNEW.out (info27 _) (zero_size _) (cs_one _) ?_)
  clear HNEW
  generalize w3.heap.size = C at *
  generalize w1.heap.size = g at *
  go_loopg [7, 8, 9] (F.size / 64) (fun gk mk i s9 wr => ∃ (k j : Nat), k ≤ F.size / 64 ∧ j = 64 * k ∧ gk = F.size / 64 - k ∧ mk = .bool (Dv.scanTo F.data.toList k) ∧ i = .int .i64 j ∧ Sc w wr g C (Sh.chain F.data.toList k))
  case atStart => exact ⟨0, 0, Nat.zero_le _, rfl, rfl, rfl, rfl, HST.out⟩
  case round =>
    obtain ⟨k, j, hk, hj, rfl, rfl, rfl, hsu⟩ := hrel
    clear HST
    by_cases hlt : k < F.size / 64
    · have hjs : j + 64 ≤ F.size := by omega
      have h1 : (j : Int) < F.size := by omega
      have h2 : (0 : Int) ≤ j := by omega
      have h3 : (j : Int) + 64 ≤ F.size := by omega
      have hw64 : IntKind.i64.wrap ((j : Int) + 64) = (j : Int) + 64 := IntWalk.i64_in _ (by omega)
      have h4 : (0 : Int) ≤ (j : Int) + 64 := by omega
      have h5 : (j : Int) ≤ (j : Int) + 64 := by omega
      have h6 : ((j : Int) + 64).toNat = j + 64 := by omega
      have hblk : (F.extract j (j + 64)).data.toList = (F.data.toList.drop (64 * k)).take 64 := by rw [extract_list, hj, show 64 * k + 64 - 64 * k = 64 by omega]
      have hbz : (F.extract j (j + 64)).size ≤ 100000 := by rw [ByteArray.size_extract]; omega
      have hnx : Sh.chain F.data.toList (k + 1) = Sh.press (Sh.chain F.data.toList k) ((F.data.toList.drop (64 * k)).take 64) := rfl
      have hsn : Dv.scanTo F.data.toList (k + 1) = (Dv.scanTo F.data.toList k || Dv.blockHit (Sh.chain F.data.toList k) ((F.data.toList.drop (64 * k)).take 64) 21) := rfl
      rw [← hblk] at hnx hsn
      generalize hX : Sh.chain F.data.toList k = X at *
      clear hX
      have HPR := Lib.hid (fun W => rpress_any X (F.extract j (j + 64)) W hbz)
      have HMK := Lib.hid (fun (n : Nat) (hn : n < 21) (W : World) => show Calls Try.prog 14 #[.agg (cs X), .string (F.extract j (j + 64)), .agg (vs (Dv.vecs.getD n (0, 0)).1 (Dv.vecs.getD n (0, 0)).2 0)] W fun e w' => e = .returned (.bool (Dv.marked X (F.extract j (j + 64)).data.toList (Dv.vdiff n))) ∧ Below W.heap.size W w' from by
        have h := rmarked_any X (F.extract j (j + 64)) (Dv.vecs.getD n (0, 0)).1 (Dv.vecs.getD n (0, 0)).2 0 W hbz
        rw [vec_ok n hn, Bool.true_and] at h
        exact h)
      have hj0 : Dv.blockHit X (F.extract j (j + 64)).data.toList 0 = false := rfl
      generalize Dv.scanTo F.data.toList k = sk at *
      have HNX := Lib.hid hnx
      have HSN := Lib.hid hsn
      have HJ := Lib.hid hj
      have HJ0 := Lib.hid hj0
      have HS := Lib.hid hsu
      clear hnx hsn hj hj0 hsu hblk hbz
      go_wp2
      go_loopg [7, 9] 21 (fun gk mk i wr => ∃ n : Nat, n ≤ 21 ∧ gk = 21 - n ∧ mk = .bool (sk || Dv.blockHit X (F.extract j (j + 64)).data.toList n) ∧ i = .int .i64 n ∧ Sc w wr g C X)
      case atStart => exact ⟨0, Nat.zero_le _, rfl, by rw [HJ0.out, Bool.or_false], rfl, HS.out⟩
      case round =>
        obtain ⟨n, hn, rfl, rfl, rfl, hx⟩ := hrel
        clear HS
        by_cases hln : n < 21
        · have hi1 : ((n : Nat) : Int) < 21 := by omega
          have hi0 : (0 : Int) ≤ ((n : Nat) : Int) := by omega
          have hsu := blockHit_succ X (F.extract j (j + 64)).data.toList n
          have HM := Lib.hid (HMK.out n hln)
          have HL := Lib.hid (fun (W : World) (hW : Vl W g) => hW.load29 n hln)
          generalize ((Dv.vecs.getD n (0, 0)).1 : Int) = ty at *
          generalize ((Dv.vecs.getD n (0, 0)).2 : Int) = K0 at *
          generalize Dv.marked X (F.extract j (j + 64)).data.toList (Dv.vdiff n) = mm at *
          have hor : (sk || Dv.blockHit X (F.extract j (j + 64)).data.toList (n + 1)) = ((sk || Dv.blockHit X (F.extract j (j + 64)).data.toList n) || mm) := by rw [hsu, Bool.or_assoc]
          generalize (sk || Dv.blockHit X (F.extract j (j + 64)).data.toList n) = cur at *
          have HOR := Lib.hid hor
          have HX := Lib.hid hx
          clear hor hsu hx
          cases cur
          case true =>
            as_aux_lemma =>
            go_wp2_with fail
            refine wp_region_seq (fun W => Sc w W g C X) [(0, false, 0), (1, false, 1), (2, false, 3), (3, false, 7), (4, false, 15), (5, false, 31), (6, false, 63), (7, false, 127), (8, false, 255), (9, false, 511), (10, false, 1023), (11, false, 2047), (12, false, 4095), (13, false, 8191), (14, false, 16383)]
              15 (by kernel_rfl) (by kernel_rfl) (by kernel_rfl) (fun d _ _ _ _ h => by cases d <;> exact h) (by kernel_rfl) (by kernel_rfl) HX.out.drew ?_
            refine seqH_take (.bool true) rfl (Or.inl ⟨by rfl, fun W _ => by go_simp⟩) ?_
            go_simp
            refine seqH_take (.bool true) rfl (Or.inl ⟨by rfl, fun W _ => by go_simp⟩) ?_
            go_simp
            refine seqH_take undef rfl (Or.inr ⟨by rfl, rfl⟩) ?_
            go_simp
            refine seqH_take undef rfl (Or.inr ⟨by rfl, rfl⟩) ?_
            go_simp
            refine seqH_take undef rfl (Or.inr ⟨by rfl, rfl⟩) ?_
            go_simp
            refine seqH_take undef rfl (Or.inr ⟨by rfl, rfl⟩) ?_
            go_simp
            refine seqH_take undef rfl (Or.inr ⟨by rfl, rfl⟩) ?_
            go_simp
            refine seqH_take undef rfl (Or.inr ⟨by rfl, rfl⟩) ?_
            go_simp
            refine seqH_take undef rfl (Or.inr ⟨by rfl, rfl⟩) ?_
            go_simp
            refine seqH_take undef rfl (Or.inr ⟨by rfl, rfl⟩) ?_
            go_simp
            refine seqH_take undef rfl (Or.inr ⟨by rfl, rfl⟩) ?_
            go_simp
            refine seqH_take undef rfl (Or.inr ⟨by rfl, rfl⟩) ?_
            go_simp
            refine seqH_take undef rfl (Or.inr ⟨by rfl, rfl⟩) ?_
            go_simp
            refine seqH_take (.bool true) rfl (Or.inl ⟨by rfl, fun W _ => by go_simp⟩) ?_
            go_simp
            refine seqH_take (.bool true) rfl (Or.inl ⟨by rfl, fun W _ => by go_simp⟩) ?_
            go_simp
            refine seqH_done ?_
            go_wp2
            go_roundg (21 - (n + 1))
            case rel => exact ⟨n + 1, by omega, rfl, by rw [HOR.out, Bool.true_or], by go_num, HX.out.drew⟩
            case measure => omega
          case false =>
            as_aux_lemma =>
            go_wp2_with fail
            refine wp_region_seq (fun W => Sc w W g C X) [(0, false, 0), (1, false, 1), (2, false, 3), (3, false, 7), (4, false, 15), (5, false, 31), (6, false, 63), (7, false, 127), (8, false, 255), (9, false, 511), (10, false, 1023), (11, false, 2047), (12, true, 4095), (13, false, 8191), (14, false, 16383)]
              15 (by kernel_rfl) (by kernel_rfl) (by kernel_rfl) (fun d _ _ _ _ h => by cases d <;> exact h) (by kernel_rfl) (by kernel_rfl) HX.out.drew ?_
            refine seqH_take (.bool false) rfl (Or.inl ⟨by rfl, fun W _ => by go_simp⟩) ?_
            go_simp
            refine seqH_take (.bool false) rfl (Or.inl ⟨by rfl, fun W _ => by go_simp⟩) ?_
            go_simp
            refine seqH_take (.agg (cs X)) rfl (yields_load 36 (.tmp 6) rfl (by rfl) C rfl 36 (cs X) (0, 0) _ (fun W hW => hW.ch) Try.underlying36 rfl (info27 _)) ?_
            go_simp
            refine seqH_take (.string F) rfl (Or.inl ⟨by rfl, fun W _ => by go_simp⟩) ?_
            go_simp
            refine seqH_take (.int .i64 j) rfl (Or.inl ⟨by rfl, fun W _ => by go_simp⟩) ?_
            go_simp
            refine seqH_take (.int .i64 j) rfl (Or.inl ⟨by rfl, fun W _ => by go_simp⟩) ?_
            go_simp
            refine seqH_take (.int .i64 ((j : Int) + 64)) rfl (Or.inl ⟨by rfl, fun W _ => by go_simp⟩) ?_
            go_simp
            refine seqH_take (.string (F.extract j (j + 64))) rfl (Or.inl ⟨by rfl, fun W _ => by go_simp⟩) ?_
            go_simp
            refine seqH_take (.slice (some ⟨g, 0, none⟩) 21 21) rfl (Or.inl ⟨by rfl, fun W _ => by go_simp⟩) ?_
            go_simp
            refine seqH_take (.int .i64 n) rfl (Or.inl ⟨by rfl, fun W _ => by go_simp⟩) ?_
            go_simp
            refine seqH_take (.pointer (some ⟨g, n * 3, none⟩)) rfl (Or.inl ⟨by rfl, fun W _ => by go_simp⟩) ?_
            go_simp
            refine seqH_take (.agg (vs ty K0 0)) rfl (yields_load_sub 29 (.tmp 36) rfl (by rfl) g (n * 3) rfl (vs ty K0 0) (fun W hW => HL.out W hW.vl)) ?_
            go_simp
            refine seqH_call rfl (by rfl) (fun K hK => ?_)
            have HK := Lib.hid hK
            clear hK
            go_simp
            refine (HM.out _).mono ?_
            rintro e w5 ⟨rfl, hb5⟩
            have hx5 := HX.out.drew.more hb5
            clear hb5
            refine HK.out _ _ hx5 ?_
            clear HK K
            go_simp
            refine seqH_take (.bool mm) rfl (Or.inl ⟨by rfl, fun W _ => by go_simp⟩) ?_
            go_simp
            refine seqH_take (.bool mm) rfl (Or.inl ⟨by rfl, fun W _ => by go_simp⟩) ?_
            go_simp
            refine seqH_done ?_
            have HX5 := Lib.hid hx5
            clear hx5
            go_wp2
            go_roundg (21 - (n + 1))
            case rel => exact ⟨n + 1, by omega, rfl, by rw [HOR.out, Bool.false_or], by go_num, HX5.out⟩
            case measure => omega
        · obtain rfl : n = 21 := by omega
          have hsn := HSN.out
          rw [← hsn]
          have HX := Lib.hid hx
          clear hx hsn
          generalize hmk : Dv.scanTo F.data.toList (k + 1) = mk at *
          have HMK2 := Lib.hid hmk
          clear hmk
          go_wp2_with fail
          refine wp_region_seq (fun W => Below w.heap.size w W) [(1, false, 0), (2, false, 2), (3, false, 6), (4, false, 14), (5, false, 30), (0, true, 62), (6, true, 63), (7, true, 127)]
            8 (by kernel_rfl) (by kernel_rfl) (by kernel_rfl) (fun d _ _ _ _ h => by cases d <;> exact h) (by kernel_rfl) (by kernel_rfl) HX.out.below.drew ?_
          refine seqH_take (.string F) rfl (Or.inl ⟨by rfl, fun W _ => by go_simp⟩) ?_
          go_simp
          refine seqH_take (.int .i64 j) rfl (Or.inl ⟨by rfl, fun W _ => by go_simp⟩) ?_
          go_simp
          refine seqH_take (.int .i64 j) rfl (Or.inl ⟨by rfl, fun W _ => by go_simp⟩) ?_
          go_simp
          refine seqH_take (.int .i64 ((j : Int) + 64)) rfl (Or.inl ⟨by rfl, fun W _ => by go_simp⟩) ?_
          go_simp
          refine seqH_take (.string (F.extract j (j + 64))) rfl (Or.inl ⟨by rfl, fun W _ => by go_simp⟩) ?_
          go_simp
          refine seqH_call rfl (by rfl) (fun K hK => ?_)
          have HK := Lib.hid hK
          clear hK
          refine wp_load_row 36 (.tmp 6) rfl C rfl 36 (cs X) (0, 0) _ HX.out.ch Try.underlying36 rfl (info27 _) ?_
          refine HK.out _ _ HX.out.below.drew ?_
          clear HK K
          go_simp
          refine seqH_call rfl (by rfl) (fun K hK => ?_)
          have HK := Lib.hid hK
          clear hK
          go_simp
          refine (HPR.out _).mono ?_
          rintro e w5 ⟨rfl, hb5⟩
          have hx5 := HX.out.drew.more hb5
          clear hb5
          refine HK.out _ _ hx5.below ?_
          clear HK K
          rw [← HNX.out]
          generalize hY : Sh.chain F.data.toList (k + 1) = Y at *
          have HY := Lib.hid hY
          clear hY
          go_simp
          refine seqH_call rfl (by rfl) (fun K hK => ?_)
          have HK := Lib.hid hK
          clear hK
          refine wp_store_row 36 (.tmp 6) (.tmp 46) rfl C (cs Y) rfl rfl 36 (cs X) hx5.ch (info27 _) (cs_sizes _ _) (cs_one _) ?_
          have hx6 := hx5.put Y
          refine HK.out _ _ hx6.below ?_
          clear HK K
          go_simp
          refine seqH_done ?_
          have HX6 := Lib.hid hx6
          clear hx5 hx6
          go_wp2
          go_roundg (F.size / 64 - (k + 1))
          case rel => exact ⟨k + 1, j + 64, by omega, by have := HJ.out; omega, rfl, by rw [HMK2.out], by go_num, by rw [HY.out]; exact HX6.out⟩
          case measure => omega
    · obtain rfl : k = F.size / 64 := by omega
      have h64 := H64.out
      have hj1 : ¬ (j : Int) < F.size := by omega
      rw [← HSC.out]
      have HBL := Lib.hid hsu.below
      clear hsu h64
      go_wp2_with fail
      refine (HSM.out _).mono ?_
      rintro e w6 ⟨rfl, hb6⟩
      have HB6 := Lib.hid (HBL.out.trans (hb6.mono HBL.out.size))
      clear hb6
      go_wp2
      go_ret2
      exact ⟨rfl, HB6.out⟩
end Go.Proofs.Ytpffolohkmokhaa.Hd
