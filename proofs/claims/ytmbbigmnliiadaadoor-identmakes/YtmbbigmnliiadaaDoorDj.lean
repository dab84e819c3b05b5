/-
  The contract of the program's anyMarked (package detect): is one of the blocks marked by one of the vectors?
-/
import Derived.Test.YtmbbigmnliiadaaDoorD3
import Derived.Test.YtmbbigmnliiadaaDoorD2
namespace Go.Proofs.YtmbbigmnliiadaaDoor.Hd
open Go.RowKit Hs Hp
set_option linter.unusedVariables false

theorem slice_to (s : ByteArray) (n : Nat) (h : n ≤ s.size) (W : World) : (Instr.slice 9 (.string s) none (some (.int .i64 (n : Int))) none).run Tryd.prog W = .ok (.string (s.extract 0 n)) W := by
  have h := run_slice_string_h (P := Tryd.prog) (w := W) (t := 9) (s := s) Tryd.underlying9 .i64 (n : Int) (by omega) (by omega)
  rw [h, Int.toNat_natCast]
theorem slice_rest (s : ByteArray) (n : Nat) (h : n ≤ s.size) (W : World) : (Instr.slice 9 (.string s) (some (.int .i64 (n : Int))) none none).run Tryd.prog W = .ok (.string (s.extract n s.size)) W := by
  have h := run_slice_string_l (P := Tryd.prog) (w := W) (t := 9) (s := s) Tryd.underlying9 .i64 (n : Int) (by omega) (by omega)
  rw [h, Int.toNat_natCast]

/-! ### blocks -/
theorem scanTo_mono (f : List UInt8) (k : Nat) : ∀ j, Dv.scanTo f k = true → Dv.scanTo f (k + j) = true
  | 0, h => h
  | j + 1, h => by
    show (Dv.scanTo f (k + j) || _) = true
    rw [scanTo_mono f k j h, Bool.true_or]
theorem blockHit_eq (c : Sh.Ch) (l : List UInt8) : Dv.blockHit c l 21 = anyHit (Sh.words l) (Dv.fore (Sh.words l) c 0 58) (Sh.press c l) 21 := rfl
/-- where the parts begin and end -/
def cutAt (n F i : Nat) : Nat := if i = 0 then 0 else if i = 1 then 64 * (n / 64) else F
theorem take_list (P : ByteArray) (n : Nat) : (P.extract 0 n).data.toList = P.data.toList.take n := by simp [List.extract_eq_take_drop]
theorem drop_list (P : ByteArray) (n : Nat) : (P.extract n P.size).data.toList = P.data.toList.drop n := by
  simp [List.extract_eq_take_drop]
  exact List.take_of_length_le (by simp)
theorem size_list (P : ByteArray) : P.size = P.data.toList.length := by simp
theorem block_list (f : List UInt8) (T k : Nat) (h : k < T) (hT : 64 * T ≤ f.length) : (((f.take (64 * T)).drop (64 * k)).take 64) = (f.drop (64 * k)).take 64 := by
  rw [List.drop_take, List.take_take, show min 64 (64 * T - 64 * k) = 64 by omega]

/-- the state of anyMarked: the chain, the two parts -/
structure An (w wr : World) (C B : Nat) (X : Sh.Ch) (Q R : ByteArray) : Prop where
  below : Below w.heap.size w wr
  lo : w.heap.size ≤ C
  mid : C < B
  lt : B < wr.heap.size
  ch : wr.heap[C]? = some (.cells (cs X) 70 (0, 0))
  pt : wr.heap[B]? = some (.cells #[.string Q, .string R] 9 (0, 0))
section
variable {w wr w1 : World} {C B : Nat} {X : Sh.Ch} {Q R : ByteArray}
theorem An.drew (h : An w wr C B X Q R) : An w wr.drew C B X Q R := ⟨h.below.drew, h.lo, h.mid, h.lt, h.ch, h.pt⟩
theorem An.more (h : An w wr C B X Q R) (hb : Below wr.heap.size wr w1) : An w w1 C B X Q R :=
  have hl := h.lt
  have hm := h.mid
  ⟨h.below.trans (hb.mono h.below.size), h.lo, hm, Nat.lt_of_lt_of_le hl hb.size, by rw [hb.block _ (by omega)]; exact h.ch, by rw [hb.block _ hl]; exact h.pt⟩
theorem An.put (h : An w wr C B X Q R) (Y : Sh.Ch) : An w (wr.setRow C (cs Y)) C B Y Q R :=
  have hm := h.mid
  ⟨below_setRow h.below h.lo _, h.lo, hm, by simpa using h.lt, setRow_heap _ _ (cs X) _ _ _ h.ch, by rw [setRow_other _ _ _ _ (by omega)]; exact h.pt⟩
theorem An.high (h : An w wr C B X Q R) (b : Nat) (hb : B < b) (r : Array Value) : An w (wr.setRow b r) C B X Q R :=
  have hm := h.mid
  have hl := h.lo
  ⟨below_setRow h.below (by omega) _, h.lo, hm, by simpa using h.lt, by rw [setRow_other _ _ _ _ (by omega)]; exact h.ch, by rw [setRow_other _ _ _ _ (by omega)]; exact h.pt⟩
theorem An.cellAt (h : An w wr C B X Q R) (m : Nat) (hm : m < 2) : wr.cell? ⟨B, m, none⟩ = some (.string (if m = 0 then Q else R)) := by
  rw [cell_of_row wr B m _ _ _ h.pt]
  match m, hm with
  | 0, _ => rfl
  | 1, _ => rfl
end

/-- the two orders in which a passage is made and its place is laid -/
def tree8 : Tr := .take 0 0 (.take 1 1 (.take 2 3 (.fork 3 4 7 (.call 4 15 (.call 5 31 .done)) (.call 3 23 (.call 5 31 .done)))))

set_option maxHeartbeats 8000000 in
set_option maxRecDepth 100000 in
theorem anyMarked_any (s : ByteArray) (g c : Nat) (w : World) (hs : s.size ≤ 10000) (hD : Ds w g) (hg : g < w.heap.size) :
    Calls Tryd.prog 32 #[.string s, .slice (some ⟨g, 0, none⟩) 21 c] w fun e w' => e = .returned (.bool (Dv.scan s.data.toList)) ∧ Below w.heap.size w w' := by
  have hz6 := zv60
  have hmf : ∀ (fn : Fn) (first cap : Array Value) (w : World), (Instr.makeFunc fn first cap).run Tryd.prog w = .ok (.func fn first cap) w := fun _ _ _ _ => rfl
  obtain ⟨f, hf⟩ : ∃ f, f = Sh.fill s.data.toList := ⟨_, rfl⟩
  have hsc : Dv.scan s.data.toList = Dv.scanTo f (f.length / 64) := by rw [hf]; rfl
  have hf64 : f.length % 64 = 0 := by rw [hf]; exact Sh.fill_length _
  have hln : s.data.toList.length = s.size := by simp
  have hff : f = s.data.toList ++ fil s.size := by rw [hf, fill_fil, hln]
  have hfil := filling_any s.size
  have hfz : (fil s.size).length ≤ 80 := by rw [fil_length]; have : Sh.nought s.size < 64 := Nat.mod_lt _ (by omega); omega
  have hfl : f.length = s.size + (fil s.size).length := by rw [hff, List.length_append, hln]
  obtain ⟨q, hq⟩ : ∃ q : Nat, q = s.size / 64 := ⟨_, rfl⟩
  have hql : 64 * q ≤ s.size := by omega
  have hq0 : s.size - s.size % 64 = 64 * q := by omega
  have hA : (s.extract 0 (64 * q)).data.toList = (f.take (64 * q)).drop 0 := by
    rw [take_list, hff, List.take_append_of_le_length (by omega), List.drop_zero]
  have hB : (s.extract (64 * q) s.size ++ (⟨(fil s.size).toArray⟩ : ByteArray)).data.toList = (f.take f.length).drop (64 * q) := by
    rw [List.take_length, hff, List.drop_append_of_le_length (by omega), ← drop_list]
    simp
  have hcut : ∀ m, m < 2 → cutAt s.size f.length m ≤ cutAt s.size f.length (m + 1) ∧ cutAt s.size f.length (m + 1) ≤ f.length ∧ cutAt s.size f.length (m + 1) % 64 = 0 := fun m hm => by
    unfold cutAt
    match m, hm with
    | 0, _ => simp; omega
    | 1, _ => simp; omega
  have hpart : ∀ m, m < 2 → (if m = 0 then s.extract 0 (64 * q) else s.extract (64 * q) s.size ++ (⟨(fil s.size).toArray⟩ : ByteArray)).data.toList = (f.take (cutAt s.size f.length (m + 1))).drop (cutAt s.size f.length m) := fun m hm => by
    match m, hm with
    | 0, _ => rw [if_pos rfl, hA]; unfold cutAt; simp [hq]
    | 1, _ => rw [if_neg (by omega), hB]; unfold cutAt; simp [hq]
  have hend : cutAt s.size f.length 2 = f.length := rfl
  have hbeg : cutAt s.size f.length 0 = 0 := rfl
  have hsl1 := slice_to s (64 * q) hql
  have hsl2 := slice_rest s (64 * q) hql
  generalize hcu : cutAt s.size f.length = cut at *
  have hz1 : (s.extract (64 * q) s.size).size ≤ 10000 := by rw [ByteArray.size_extract]; omega
  have hz2 : (⟨(fil s.size).toArray⟩ : ByteArray).size ≤ 80 := by
    show (fil s.size).toArray.size ≤ 80
    rw [List.size_toArray]
    exact hfz
  generalize s.extract 0 (64 * q) = Q0 at *
  generalize s.extract (64 * q) s.size = Q1 at *
  generalize hFI : (⟨(fil s.size).toArray⟩ : ByteArray) = FI at *
  have hcat : Q1.size + FI.size ≤ 9223372036854775807 := by omega
  have hlen : (s.size : Int) - (s.size : Int) % 64 = ((64 * q : Nat) : Int) := by omega
  have hrem : ((s.size : Int)).tmod 64 = (s.size : Int) % 64 := Int.tmod_eq_emod_of_nonneg (by omega)
  generalize 64 * q = W0 at *
  have hfl1 : f.length ≤ 20000 := by omega
  have HSC := Lib.hid hsc
  have HCUT := Lib.hid hcut
  have HPT := Lib.hid hpart
  have HEND := Lib.hid hend
  have HBEG := Lib.hid hbeg
  have HFIL := Lib.hid (fun W => hfil W (by omega))
  have HD := Lib.hid hD
  have HFL := Lib.hid hfl1
  have HF64 := Lib.hid hf64
  clear hf hsc hf64 hln hff hfil hfz hfl hq hql hq0 hA hB hcut hpart hend hbeg hcu hFI hD hfl1
  go_enter Tryd.func32, Tryd.ntmps32
  go_wp2_with fail
  refine (first_any _).mono ?_
  rintro e w1 ⟨rfl, hb1⟩
  have HN := Lib.hid (heap_alloc_new w1 (.cells #[.int .u32 0, .int .u32 0, .int .u32 0, .int .u32 0, .int .u32 0] 70))
  go_wp2_with (with_reducible refine wpList_store_row rfl 70 (.tmp 5) (.tmp 10) rfl w1.heap.size (cs Sh.first) rfl rfl 70 _ HN.out (info28c _) (zero_size _) (cs_one _) ?_)
  have hbw : Below w.heap.size w ((w1.alloc (.cells #[.int .u32 0, .int .u32 0, .int .u32 0, .int .u32 0, .int .u32 0] 70)).setRow w1.heap.size (cs Sh.first)) := below_setRow (hb1.alloc hb1.size _) hb1.size _
  have hch := setRow_heap _ _ _ (cs Sh.first) _ _ HN.out
  have hlc : w.heap.size ≤ w1.heap.size := hb1.size
  have hcl : w1.heap.size < ((w1.alloc (.cells #[.int .u32 0, .int .u32 0, .int .u32 0, .int .u32 0, .int .u32 0] 70)).setRow w1.heap.size (cs Sh.first)).heap.size := by simp
  have HBW := Lib.hid hbw
  have HCH := Lib.hid hch
  clear hbw hch hb1 HN
  generalize (w1.alloc (.cells #[.int .u32 0, .int .u32 0, .int .u32 0, .int .u32 0, .int .u32 0] 70)).setRow w1.heap.size (cs Sh.first) = w2 at *
  generalize w1.heap.size = C at *
  refine wp_region_seq (fun W => Below w2.heap.size w2 W) [(0, false, 0), (1, false, 1), (2, false, 3), (3, false, 7), (4, false, 15), (5, false, 31), (6, false, 63), (7, false, 127), (12, false, 255), (8, true, 4351), (9, false, 4607), (10, true, 5119), (11, false, 6143)]
    13 (by kernel_rfl) (by kernel_rfl) (by kernel_rfl) (fun d _ _ _ _ h => by cases d <;> exact h) (by kernel_rfl) (by kernel_rfl) (Below.refl _ w2).drew ?_
  refine seqH_take (.string s) rfl (Or.inl ⟨by rfl, fun W _ => by go_simp⟩) ?_
  go_simp
  refine seqH_take (.int .i64 W0) rfl (Or.inl ⟨by rfl, fun W _ => by go_simp⟩) ?_
  go_simp
  refine seqH_take (.string Q0) rfl (Or.inl ⟨by rfl, fun W _ => by go_simp⟩) ?_
  go_simp
  refine seqH_take (.string s) rfl (Or.inl ⟨by rfl, fun W _ => by go_simp⟩) ?_
  go_simp
  refine seqH_take (.int .i64 W0) rfl (Or.inl ⟨by rfl, fun W _ => by go_simp⟩) ?_
  go_simp
  refine seqH_take (.string Q1) rfl (Or.inl ⟨by rfl, fun W _ => by go_simp⟩) ?_
  go_simp
  refine seqH_take (.string s) rfl (Or.inl ⟨by rfl, fun W _ => by go_simp⟩) ?_
  go_simp
  refine seqH_take (.int .i64 s.size) rfl (Or.inl ⟨by rfl, fun W _ => by go_simp⟩) ?_
  go_simp
  refine seqH_take (.int .i64 0) rfl (Or.inl ⟨by rfl, fun W _ => by go_simp⟩) ?_
  go_simp
  refine seqH_call rfl (by rfl) (fun K hK => ?_)
  have HK := Lib.hid hK
  clear hK
  go_simp
  refine (HFIL.out _).mono ?_
  rintro e w3 ⟨rfl, hb3⟩
  have hb23 : Below w2.heap.size w2 w3 := (Below.refl _ w2).drew.trans hb3
  clear hb3
  refine HK.out _ _ hb23 ?_
  clear HK K
  go_simp
  refine seqH_take (.string (Q1 ++ FI)) rfl (Or.inl ⟨by rfl, fun W _ => by go_simp⟩) ?_
  go_simp
  refine seqH_call rfl (by rfl) (fun K hK => ?_)
  have HK := Lib.hid hK
  clear hK
  go_simp
  refine HK.out _ _ (hb23.alloc hb23.size _) ?_
  clear HK K
  go_simp
  refine seqH_take (.int .i64 2) rfl (Or.inl ⟨by rfl, fun W _ => by go_simp⟩) ?_
  go_simp
  refine seqH_done ?_
  have hz3 : w2.heap.size ≤ w3.heap.size := hb23.size
  have hAn : An w (w3.alloc (.cells #[.string Q0, .string (Q1 ++ FI)] 9)) C w3.heap.size Sh.first Q0 (Q1 ++ FI) :=
    ⟨(HBW.out.trans (hb23.mono HBW.out.size)).alloc (by omega) _, hlc, by omega, by simp, by rw [heap_alloc_old _ _ (by omega), hb23.block _ hcl]; exact HCH.out, heap_alloc_new _ _⟩
  have HAN := Lib.hid hAn
  clear hAn hb23 hz3 HBW HCH HFIL hsl1 hsl2 hrem hlen
  generalize w3.heap.size = B at *
  clear hz1 hz2 hcl hcat
  generalize Q1 ++ FI = Q2 at *
  go_wp2
  go_loopg [8, 9, 29] 2 (fun gk s8 s9 i wr => ∃ m k : Nat, m ≤ 2 ∧ gk = 2 - m ∧ i = .int .i64 m ∧ 64 * k = cut m ∧ An w wr C B (Sh.chain f k) Q0 Q2 ∧ Dv.scanTo f k = false)
  case atStart => exact ⟨0, 0, Nat.zero_le _, rfl, rfl, HBEG.out.symm, HAN.out, rfl⟩
  case round =>
    obtain ⟨m, k, hm, rfl, rfl, hk, hx, hno⟩ := hrel
    clear HAN
    by_cases hlt : m < 2
    · have hi1 : ((m : Nat) : Int) < 2 := by omega
      have hi0 : (0 : Int) ≤ ((m : Nat) : Int) := by omega
      have hcell := hx.cellAt m hlt
      have hpl := HPT.out m hlt
      obtain ⟨hc1, hc2, hc3⟩ := HCUT.out m hlt
      generalize (if m = 0 then Q0 else Q2) = P0 at *
      rw [← hk] at hpl hc1
      obtain ⟨T, hT⟩ : ∃ T : Nat, 64 * T = cut (m + 1) := ⟨cut (m + 1) / 64, by omega⟩
      rw [← hT] at hpl hc1 hc2
      have HT := Lib.hid hT
      have hkT : k ≤ T := by omega
      have HP := Lib.hid hpl
      have HX := Lib.hid hx
      have HNO := Lib.hid hno
      have HTF := Lib.hid hc2
      clear hT hpl hc1 hc2 hc3 hx hno hk
      go_wp2
      clear hcell
      go_loopg [8, 9] (T - k) (fun gk s8 s9 wr => ∃ (k : Nat) (P : ByteArray), k ≤ T ∧ gk = T - k ∧ s8 = .string P ∧ P.data.toList = (f.take (64 * T)).drop (64 * k) ∧ An w wr C B (Sh.chain f k) Q0 Q2 ∧ Dv.scanTo f k = false)
      case atStart => exact ⟨k, P0, hkT, rfl, rfl, HP.out, HX.out, HNO.out⟩
      case round =>
        clear HP HX HNO hkT
        obtain ⟨k, P, hk, rfl, rfl, hpl, hx, hno⟩ := hrel
        have hTF := HTF.out
        have hpz : P.size = 64 * T - 64 * k := by rw [size_list, hpl, List.length_drop, List.length_take]; omega
        by_cases hlk : k < T
        · have hne : (P.toList == []) = false := by
            have h := str_bne (a := P) (b := ⟨#[]⟩) (fun e => by rw [e] at hpz; have : (⟨#[]⟩ : ByteArray).size = 0 := rfl; omega)
            simpa using h
          have h64 : (64 : Int) ≤ P.size := by omega
          have hbl : (P.extract 0 64).data.toList = (f.drop (64 * k)).take 64 := by rw [take_list, hpl, block_list f T k hlk hTF]
          have hpn : (P.extract 64 P.size).data.toList = (f.take (64 * T)).drop (64 * (k + 1)) := by rw [drop_list, hpl, List.drop_drop, show 64 * k + 64 = 64 * (k + 1) by omega]
          have hbz : (P.extract 0 64).size ≤ 100000 := by rw [ByteArray.size_extract]; omega
          have hcn : Sh.chain f (k + 1) = Sh.press (Sh.chain f k) ((f.drop (64 * k)).take 64) := rfl
          have hsn : Dv.scanTo f (k + 1) = (Dv.scanTo f k || Dv.blockHit (Sh.chain f k) ((f.drop (64 * k)).take 64) 21) := rfl
          have hsy : Dv.scanTo f (k + 1) = true → Dv.scanTo f (f.length / 64) = true := fun h => by
            have := scanTo_mono f (k + 1) (f.length / 64 - (k + 1)) h
            rwa [show k + 1 + (f.length / 64 - (k + 1)) = f.length / 64 by omega] at this
          rw [hno, Bool.false_or, blockHit_eq] at hsn
          rw [← hbl] at hsn hcn
          have HPA := Lib.hid (fun W => pass_any (Sh.chain f k) (P.extract 0 64) W hbz)
          clear hpz
          generalize Sh.chain f k = X at *
          generalize Sh.press X (P.extract 0 64).data.toList = E at *
          generalize Sh.words (P.extract 0 64).data.toList = L at *
          generalize Dv.fore L X 0 58 = S at *
          have HPN := Lib.hid hpn
          have HCN := Lib.hid hcn
          have HSN := Lib.hid (show anyHit L S E 21 = false → Dv.scanTo f (k + 1) = false from fun h => hsn.trans h)
          have HSY := Lib.hid (show anyHit L S E 21 = true → Dv.scanTo f (f.length / 64) = true from fun h => hsy (hsn.trans h))
          have HX := Lib.hid hx
          clear hbl hpn hbz hcn hsn hsy hno hpl hx
          go_wp2_with fail
          have hxd := HX.out.drew
          refine wp_region_tree (fun W => W.heap[C]? = some (.cells (cs X) 70 (0, 0))) tree8 6 (by kernel_rfl) (by kernel_rfl) (by kernel_rfl) (fun d _ _ _ _ h => by cases d <;> exact h) (by kernel_rfl) hxd.ch ?_
          refine trH_take (.agg (cs X)) rfl (yields_load 70 (.tmp 5) rfl (by rfl) C rfl 70 (cs X) (0, 0) _ (fun W hW => hW) Tryd.underlying70 rfl info28) ?_
          go_simp
          refine trH_take (.string P) rfl (Or.inl ⟨by rfl, fun W _ => by go_simp⟩) ?_
          go_simp
          refine trH_take (.string (P.extract 0 64)) rfl (Or.inl ⟨by rfl, fun W _ => by go_simp⟩) ?_
          go_simp
          refine trH_fork rfl (by rfl) rfl (by rfl) (fun K hK => ?_) (fun K hK => ?_)
          · have HK := Lib.hid hK
            clear hK
            go_simp
            refine (HPA.out _).mono ?_
            rintro e w4 ⟨rfl, hb4⟩
            have h4 := hxd.more hb4
            clear hb4 hxd HX
            refine HK.out _ _ h4.ch ?_
            clear HK K
            go_simp
            refine trH_call rfl (by rfl) (fun K hK => ?_)
            have HK := Lib.hid hK
            clear hK
            go_simp
            have h5 := h4.more ((Below.refl _ w4).alloc (Nat.le_refl _) (.cells (ps [] z5 z5) 75))
            refine HK.out _ _ h5.ch ?_
            clear HK K
            go_simp
            refine trH_call rfl (by rfl) (fun K hK => ?_)
            have HK := Lib.hid hK
            clear hK
            have h6 := h5.high w4.heap.size h4.lt (ps L S E)
            refine wp_store_row 75 (.tmp 9) (.tmp 40) rfl w4.heap.size (ps L S E) rfl rfl 75 (ps [] z5 z5) (heap_alloc_new _ _) (info60 _ _ _) (ps_sizes _ _ _ _ _ _) (ps_one _ _ _) ?_
            refine HK.out _ _ h6.ch ?_
            clear HK K
            go_simp
            refine trH_done ?_
            have hps := setRow_heap _ _ _ (ps L S E) _ _ (heap_alloc_new w4 (.cells (ps [] z5 z5) 75))
            have hbl : w4.heap.size < ((w4.alloc (.cells (ps [] z5 z5) 75)).setRow w4.heap.size (ps L S E)).heap.size := by simp
            have HA5 := Lib.hid h6
            clear h4 h5 h6 HPA
            generalize (w4.alloc (.cells (ps [] z5 z5) 75)).setRow w4.heap.size (ps L S E) = w5 at *
            generalize w4.heap.size = b at *
            have HPS := Lib.hid hps
            have HD5 := Lib.hid (HD.out.below HA5.out.below hg)
            have hg5 : g < w5.heap.size := Nat.lt_of_lt_of_le hg HA5.out.below.size
            clear hps
            go_wp2_with (with_reducible refine wpList_load_row rfl 75 (.tmp 9) rfl b rfl 75 (ps L S E) (0, 0) _ HPS.out Tryd.underlying75 rfl (info60 _ _ _) ?_)
            refine (contains_any L S E g c w5 HD5.out hg5).mono ?_
            rintro e w6 ⟨rfl, hb6⟩
            have HA6 := Lib.hid (HA5.out.more hb6)
            have hps6 : w6.heap[b]? = some (.cells (ps L S E) 75 (0, 0)) := by rw [hb6.block _ hbl]; exact HPS.out
            have HLE := Lib.hid (load_end hps6)
            have HCH := Lib.hid HA6.out.ch
            clear hb6 hps6 HPS HD5 hg5 hbl HA5
            generalize anyHit L S E 21 = h at *
            cases h
            · go_wp2_with (first
                | (with_reducible refine wpList_load_sub rfl 70 (.tmp 45) rfl b 85 rfl (cs E) HLE.out ?_)
                | (with_reducible refine wpList_store_row rfl 70 (.tmp 5) (.tmp 46) rfl C (cs E) rfl rfl 70 _ HCH.out (info28c _) (cs_sizes _ _) (cs_one _) ?_))
              go_roundg (T - (k + 1))
              case rel => exact ⟨k + 1, _, by omega, rfl, rfl, HPN.out, by rw [HCN.out]; exact HA6.out.put E, HSN.out (by trivial)⟩
              case measure => omega
            · go_wp2
              go_ret
              exact ⟨by rw [HSC.out, HSY.out (by trivial)]; rfl, HA6.out.below⟩
          · have HK := Lib.hid hK
            clear hK
            go_simp
            have h4 := hxd.more ((Below.refl _ wr.drew).alloc (Nat.le_refl _) (.cells (ps [] z5 z5) 75))
            have hps4 := heap_alloc_new wr.drew (.cells (ps [] z5 z5) 75)
            have hBw := HX.out.lt
            clear hxd HX
            refine HK.out _ _ h4.ch ?_
            clear HK K
            go_simp
            refine trH_call rfl (by rfl) (fun K hK => ?_)
            have HK := Lib.hid hK
            clear hK
            go_simp
            refine (HPA.out _).mono ?_
            rintro e w4 ⟨rfl, hb4⟩
            have h5 := h4.more hb4
            have hps5 : w4.heap[wr.heap.size]? = some (.cells (ps [] z5 z5) 75 (0, 0)) := by rw [hb4.block _ (by simp)]; exact hps4
            have hbl : wr.heap.size < w4.heap.size := (Array.getElem?_eq_some_iff.1 hps5).1
            clear hb4 h4 hps4
            refine HK.out _ _ h5.ch ?_
            clear HK K
            go_simp
            refine trH_call rfl (by rfl) (fun K hK => ?_)
            have HK := Lib.hid hK
            clear hK
            have h6 := h5.high wr.heap.size hBw (ps L S E)
            refine wp_store_row 75 (.tmp 9) (.tmp 40) rfl wr.heap.size (ps L S E) rfl rfl 75 (ps [] z5 z5) hps5 (info60 _ _ _) (ps_sizes _ _ _ _ _ _) (ps_one _ _ _) ?_
            refine HK.out _ _ h6.ch ?_
            clear HK K
            go_simp
            refine trH_done ?_
            have hps := setRow_heap _ _ _ (ps L S E) _ _ hps5
            replace hbl : wr.heap.size < (w4.setRow wr.heap.size (ps L S E)).heap.size := by simpa using hbl
            have HA5 := Lib.hid h6
            clear h5 h6 HPA hps5 hBw
            generalize w4.setRow wr.heap.size (ps L S E) = w5 at *
            generalize wr.heap.size = b at *
            have HPS := Lib.hid hps
            have HD5 := Lib.hid (HD.out.below HA5.out.below hg)
            have hg5 : g < w5.heap.size := Nat.lt_of_lt_of_le hg HA5.out.below.size
            clear hps
            go_wp2_with (with_reducible refine wpList_load_row rfl 75 (.tmp 9) rfl b rfl 75 (ps L S E) (0, 0) _ HPS.out Tryd.underlying75 rfl (info60 _ _ _) ?_)
            refine (contains_any L S E g c w5 HD5.out hg5).mono ?_
            rintro e w6 ⟨rfl, hb6⟩
            have HA6 := Lib.hid (HA5.out.more hb6)
            have hps6 : w6.heap[b]? = some (.cells (ps L S E) 75 (0, 0)) := by rw [hb6.block _ hbl]; exact HPS.out
            have HLE := Lib.hid (load_end hps6)
            have HCH := Lib.hid HA6.out.ch
            clear hb6 hps6 HPS HD5 hg5 hbl HA5
            generalize anyHit L S E 21 = h at *
            cases h
            · go_wp2_with (first
                | (with_reducible refine wpList_load_sub rfl 70 (.tmp 45) rfl b 85 rfl (cs E) HLE.out ?_)
                | (with_reducible refine wpList_store_row rfl 70 (.tmp 5) (.tmp 46) rfl C (cs E) rfl rfl 70 _ HCH.out (info28c _) (cs_sizes _ _) (cs_one _) ?_))
              go_roundg (T - (k + 1))
              case rel => exact ⟨k + 1, _, by omega, rfl, rfl, HPN.out, by rw [HCN.out]; exact HA6.out.put E, HSN.out (by trivial)⟩
              case measure => omega
            · go_wp2
              go_ret
              exact ⟨by rw [HSC.out, HSY.out (by trivial)]; rfl, HA6.out.below⟩
        · obtain rfl : k = T := by omega
          have hpe : P = ⟨#[]⟩ := by
            have h0 : P.data.toList = [] := List.eq_nil_of_length_eq_zero (by rw [← size_list]; omega)
            cases P with
            | mk d => cases d with
              | mk l => simp at h0; rw [h0]
          subst hpe
          have HX := Lib.hid hx
          have HNO := Lib.hid hno
          clear hx hno hpl hpz
          go_wp2
          go_roundg (2 - (m + 1))
          case rel => exact ⟨m + 1, k, by omega, rfl, by go_num, HT.out, HX.out, HNO.out⟩
          case measure => omega
    · obtain rfl : m = 2 := by omega
      have hend := HEND.out
      have hfin : Dv.scan s.data.toList = false := by rw [HSC.out, ← hend, ← hk, Nat.mul_div_cancel_left _ (by omega)]; exact hno
      have HFIN := Lib.hid hfin
      have HBL := Lib.hid hx.below
      clear hfin hx hno hk hend
      go_wp2
      go_ret
      exact ⟨by rw [HFIN.out]; rfl, HBL.out⟩
end Go.Proofs.YtmbbigmnliiadaaDoor.Hd
