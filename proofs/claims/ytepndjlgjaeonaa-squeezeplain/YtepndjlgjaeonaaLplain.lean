/-
  Proved: SqueezePlain returns true for every text, every byte and every count, and changes nothing that was there.
  Conditions: none beside the row's own.
-/
import Derived.Test.YtepndjlgjaeonaaGn
import Derived.Test.YtepndjlgjaeonaaP
import Derived.Test.YtepndjlgjaeonaaHeld
namespace Go.Proofs.Ytepndjlgjaeonaa.squeezePlain
open Go.ChangeShapes Go.WideShapes Go.ChangeAt Go.RowKit
open Go.ChangeMaps (open_string)
set_option linter.unusedVariables false

open Hg
theorem says_run (c : UInt8) (r : Nat) (hr : r < 128) : Sq.Says [0, c, UInt8.ofNat (128 + r), 0, 1] (Sq.agn (4 + r) 1 [c]) := by
  have h1 := Sq.Says.lit [] [] [c] .none (by simp) (by simp)
  have h2 := Sq.Says.back _ _ (4 + r) 1 h1 (by omega) (by omega) (by omega) (by omega) (by simp)
  have e : 4 + r + 124 = 128 + r := by omega
  rw [e] at h2
  exact h2
theorem agn_same (c : UInt8) : ∀ (n k : Nat), Sq.agn n 1 (List.replicate (k + 1) c) = List.replicate (k + 1 + n) c
  | 0, k => rfl
  | n + 1, k => by
    have e : List.replicate (k + 1) c ++ [(List.replicate (k + 1) c).getD ((List.replicate (k + 1) c).length - 1) 0] = List.replicate (k + 1 + 1) c := by
      have h1 : (List.replicate (k + 1) c).getD ((List.replicate (k + 1) c).length - 1) 0 = c := by simp [List.getD]
      rw [h1, ← List.replicate_succ']
    rw [Sq.agn, e, agn_same c n (k + 1)]
    congr 1
    omega
theorem run_text (c : UInt8) (r : Nat) : Sq.agn (4 + r) 1 [c] = List.replicate (5 + r) c := by
  have := agn_same c (4 + r) 0
  rw [show 0 + 1 + (4 + r) = 5 + r by omega] at this
  exact this
set_option maxHeartbeats 8000000 in
set_option maxRecDepth 100000 in
theorem walk (s : ByteArray) (c n : Int) (hs : s.size ≤ maxLen) (hc : (Lit.int .u8 c).wf = true) (hn : (Lit.int .u8 n).wf = true) (w : World) : Calls Try.prog 5 #[.string s, .int .u8 c, .int .u8 n] w fun e w' => e = .returned (.bool true) ∧ Below w.heap.size w w' := by
  obtain ⟨cc, rfl⟩ : ∃ cc : UInt8, c = cc.toNat := ⟨UInt8.ofNat c.toNat, by have := bounds_u8 hc; rw [Sq.u8 (by omega)]; omega⟩
  obtain ⟨nn, rfl⟩ : ∃ nn : Nat, n = nn := ⟨n.toNat, by have := bounds_u8 hn; omega⟩
  have hnn : nn < 256 := by have := bounds_u8 hn; omega
  clear hc hn
  go_enter Try.func5, Try.ntmps5
  go_wp2_with fail
  refine (awake_any _).mono ?_
  rintro e1 w1 ⟨rfl, hb1⟩
  by_cases hsa : s.size ≤ 2000
  · have h1 : ¬ (2000 : Int) < s.size := by omega
    have hz0 : (⟨#[0]⟩ : ByteArray).size = 1 := rfl
    have e0 : Sq.openF (bl ((⟨#[0]⟩ : ByteArray) ++ s)) s.size = (bl s, 0) := by
      rw [bl_append, show bl (⟨#[0]⟩ : ByteArray) ++ bl s = 0 :: bl s from rfl, Sq.open_plain, if_pos (by rw [bl_length]; exact Nat.le_refl _)]
    have hs0 : ((⟨#[0]⟩ : ByteArray) ++ s).size = 1 + s.size := by rw [ByteArray.size_append]; rfl
    have O1 := Lib.hid (fun W => show Calls Try.prog 7 _ W (fun e w' => e = .returned (.tuple #[.string s, .int .i64 0]) ∧ Below W.heap.size W w') from (open_any ((⟨#[0]⟩ : ByteArray) ++ s) (s.size : Int) W (by omega) (by omega)).mono fun r w' hr => ⟨by rw [hr.1, Int.toNat_natCast, e0]; show Ending.returned (.tuple #[.string (str (bl s)), .int .i64 0]) = _; rw [str_bl], hr.2⟩)
    have hss := str_beq (rfl : s = s)
    clear e0
    go_wp2_with fail
    refine (O1.out _).mono ?_
    rintro e w2 ⟨rfl, hb2⟩
    have HB2 := Lib.hid (hb1.trans (hb2.mono hb1.size))
    clear hb1 hb2 O1 hs0
    go_wp2_with fail
    go_loopg [9, 10] (s.size + 128) (fun gk v9 v10 wx => ∃ (j : Nat) (O : ByteArray) (cs : List UInt8), gk = s.size + 128 - 128 * j ∧ 128 * j < s.size + 128 ∧ v9 = .string O ∧ v10 = .int .i64 ((128 * j : Nat) : Int) ∧ bl O = 1 :: cs ∧ Sq.Says cs ((bl s).take (128 * j)) ∧ Below w.heap.size w wx)
    case atStart => exact ⟨0, ⟨#[1]⟩, [], rfl, by omega, rfl, rfl, rfl, .none, HB2.out⟩
    case round =>
      obtain ⟨j, O, cs, rfl, hj, rfl, rfl, hO, hsy, hbl⟩ := hrel
      obtain ⟨P, hP⟩ : ∃ P, 128 * j = P := ⟨_, rfl⟩
      rw [hP] at hsy hj
      rw [hP]
      have hcl := says_len hsy
      have hOs : O.size ≤ 5000 := by
        have h9 := bl_length O
        rw [hO, List.length_cons] at h9
        rw [List.length_take, bl_length] at hcl
        omega
      by_cases hlt : P < s.size
      · have hli : (P : Int) < s.size := by omega
        obtain ⟨k, hk⟩ : ∃ k : Nat, min 128 (s.size - P) = k := ⟨_, rfl⟩
        have hsub : IntKind.i64.wrap ((s.size : Int) - P) = (s.size : Int) - P := IntWalk.i64_in _ (by omega)
        have hif1 : (if (s.size : Int) - P < 128 then (s.size : Int) - P else 128) = k := by split <;> omega
        have hif2 : (if (128 : Int) < (s.size : Int) - P then 128 else (s.size : Int) - P) = k := by split <;> omega
        have hk1 : 1 ≤ k := by omega
        have hk2 : k ≤ 128 := by omega
        have hk3 : P + k ≤ s.size := by omega
        obtain ⟨P2, hP2⟩ : ∃ P2, P + k = P2 := ⟨_, rfl⟩
        have hw2 : IntKind.i64.wrap ((P : Int) + k) = P2 := (IntWalk.i64_in _ (by omega)).trans (by omega)
        have hw1 : IntKind.i64.wrap ((k : Int) - 1) = (k : Int) - 1 := IntWalk.i64_in _ (by omega)
        have hw3 : IntKind.i64.wrap ((P : Int) + 128) = (P : Int) + 128 := IntWalk.i64_in _ (by omega)
        have hsl := slice_mid s P P2 (P : Int) (P2 : Int) rfl rfl (by omega) (by omega)
        have hys : (s.extract P P2).size = k := by rw [ByteArray.size_extract]; omega
        have hby : bl (s.extract P P2) = ((bl s).drop P).take 128 := by
          rw [← hP2, bl_mid]
          by_cases h9 : 128 ≤ s.size - P
          · rw [show k = 128 by omega]
          · rw [List.take_of_length_le (by rw [List.length_drop, bl_length]; omega), List.take_of_length_le (by rw [List.length_drop, bl_length]; omega)]
        have hlit := Sq.Says.lit cs _ (bl (s.extract P P2)) hsy (by rw [bl_length, hys]; exact hk1) (by rw [bl_length, hys]; exact hk2)
        rw [bl_length, hys, show (bl s).take P ++ bl (s.extract P P2) = (bl s).take (P + 128) by rw [hby, List.take_add]] at hlit
        have e1 : (UInt8.ofNat (k - 1)).toNat = k - 1 := Sq.u8 (by omega)
        have hcv : IntKind.u8.wrap ((k : Int) - 1) = ((UInt8.ofNat (k - 1)).toNat : Int) := by rw [e1]; simp [IntKind.wrap, IntKind.bits, IntKind.signed]; omega
        have hcat : bl (O ++ str [UInt8.ofNat (k - 1)] ++ s.extract P P2) = 1 :: (cs ++ UInt8.ofNat (k - 1) :: bl (s.extract P P2)) := by rw [bl_append, bl_append, hO, bl_str]; simp
        have hst := fun W : World => (show (convert 33 9 (.slice (some ⟨W.heap.size, 0, none⟩) 1 1)).run Try.prog (W.alloc (.cells #[.int .u8 ((UInt8.ofNat (k - 1)).toNat : Nat)] 5)) = .ok (.string (str [UInt8.ofNat (k - 1)])) (W.alloc (.cells #[.int .u8 ((UInt8.ofNat (k - 1)).toNat : Nat)] 5)) from (own_laid W [UInt8.ofNat (k - 1)] (by simp) (by simp)).str)
        have hs1 : (str [UInt8.ofNat (k - 1)]).size = 1 := by rw [str_size]; rfl
        have hs2 : (O ++ str [UInt8.ofNat (k - 1)]).size ≤ 5001 := by rw [ByteArray.size_append, hs1]; omega
        generalize UInt8.ofNat (k - 1) = y at *
        generalize s.extract P P2 = Y at *
        have HL := Lib.hid (And.intro hlit hcat)
        have HB := Lib.hid hbl
        have HST := Lib.hid hst
        have HP := Lib.hid (And.intro hP (And.intro hP2 (And.intro hk1 (And.intro hk2 hk3))))
        clear hlit hcat hbl hst hby hsy hO hcl e1 hP hk
        generalize str [y] = T at *
        obtain ⟨OT, hOT⟩ : ∃ OT, O ++ T = OT := ⟨_, rfl⟩
        have hys2 : Y.size ≤ 128 := by omega
        rw [hOT] at hs2 HL
        go_wp2_with fail
        refine wp_region_seq (fun W => True) [(0, false, 0), (1, false, 1), (2, false, 3), (3, false, 7), (7, false, 15), (8, false, 143), (9, false, 399), (10, false, 911), (11, false, 1935), (12, false, 3983), (4, true, 8079), (5, true, 8095), (6, false, 8127), (13, false, 8191), (14, false, 16383)]
          15 (by kernel_rfl) (by kernel_rfl) (by kernel_rfl) (fun d _ _ _ _ h => by cases d <;> exact h) (by kernel_rfl) (by kernel_rfl) trivial ?_
        have HBd := Lib.hid HB.out.drew
        generalize wr.drew = w4 at *
        refine seqH_take (.string O) rfl (Or.inl ⟨by rfl, fun W _ => by go_simp⟩) ?_
        go_simp
        refine seqH_take (.int .i64 k) rfl (Or.inl ⟨by rfl, fun W _ => by go_simp⟩) ?_
        go_simp
        refine seqH_take (.int .i64 ((k : Int) - 1)) rfl (Or.inl ⟨by rfl, fun W _ => by go_simp⟩) ?_
        go_simp
        refine seqH_take (.int .u8 (y.toNat : Nat)) rfl (Or.inl ⟨by rfl, fun W _ => by go_simp⟩) ?_
        go_simp
        refine seqH_take (.string s) rfl (Or.inl ⟨by rfl, fun W _ => by go_simp⟩) ?_
        go_simp
        refine seqH_take (.int .i64 P) rfl (Or.inl ⟨by rfl, fun W _ => by go_simp⟩) ?_
        go_simp
        refine seqH_take (.int .i64 P) rfl (Or.inl ⟨by rfl, fun W _ => by go_simp⟩) ?_
        go_simp
        refine seqH_take (.int .i64 k) rfl (Or.inl ⟨by rfl, fun W _ => by go_simp⟩) ?_
        go_simp
        refine seqH_take (.int .i64 P2) rfl (Or.inl ⟨by rfl, fun W _ => by go_simp⟩) ?_
        go_simp
        refine seqH_take (.string Y) rfl (Or.inl ⟨by rfl, fun W _ => by go_simp⟩) ?_
        go_simp
        refine seqH_call rfl (by rfl) (fun K hK => ?_)
        have HK := Lib.hid hK
        clear hK
        go_simp
        refine HK.out _ _ trivial ?_
        clear HK K
        go_simp
        have hst4 := HST.out w4
        refine seqH_call rfl (by rfl) (fun K hK => ?_)
        have HK := Lib.hid hK
        clear hK
        go_simp
        refine HK.out _ _ trivial ?_
        clear HK K hst4
        have HBe := Lib.hid (HBd.out.alloc HBd.out.size (.cells #[.int .u8 (y.toNat : Nat)] 5))
        generalize w4.alloc (.cells #[.int .u8 (y.toNat : Nat)] 5) = w5 at *
        go_simp
        refine seqH_take (.string (O ++ T)) rfl (Or.inl ⟨by rfl, fun W _ => by go_simp; omega⟩) ?_
        rw [hOT]
        go_simp
        refine seqH_take (.string (OT ++ Y)) rfl (Or.inl ⟨by rfl, fun W _ => by go_simp; omega⟩) ?_
        go_simp
        refine seqH_take (.string (OT ++ Y)) rfl (Or.inl ⟨by rfl, fun W _ => by go_simp⟩) ?_
        go_simp
        refine seqH_done ?_
        clear hif1 hif2 hw1 hw2 hcv hsl hsub
        go_wp2
        go_roundg (s.size + 128 - 128 * (j + 1))
        case rel =>
          have e9 : 128 * (j + 1) = P + 128 := by have := HP.out.1; omega
          exact ⟨j + 1, OT ++ Y, _, rfl, by omega, rfl, by rw [e9]; exact congrArg (Value.int .i64) (by omega), HL.out.2, by rw [e9]; exact HL.out.1, HBe.out⟩
        case measure => have := HP.out.1; omega
      · have hli : ¬ (P : Int) < s.size := by omega
        rw [List.take_of_length_le (by rw [bl_length]; omega)] at hsy
        have O2 := Lib.hid (fun W => show Calls Try.prog 7 _ W (fun e w' => e = .returned (.tuple #[.string s, .int .i64 0]) ∧ Below W.heap.size W w') from (open_any O (s.size : Int) W (by omega) (by omega)).mono fun r w' hr => ⟨by rw [hr.1, Int.toNat_natCast, hO, Sq.open_says hsy, if_pos (by rw [bl_length]; exact Nat.le_refl _)]; show Ending.returned (.tuple #[.string (str (bl s)), .int .i64 0]) = _; rw [str_bl], hr.2⟩)
        have HB := Lib.hid hbl
        clear hcl hO hsy hbl hP
        go_wp2_with fail
        refine (O2.out _).mono ?_
        rintro e w3 ⟨rfl, hb3⟩
        have HB3 := Lib.hid (HB.out.trans (hb3.mono HB.out.size))
        clear hb3 O2 HB
        obtain ⟨r, hr⟩ : ∃ r, nn % 128 = r := ⟨_, rfl⟩
        have hr1 : r < 128 := by omega
        have hr2 : ((nn : Int) % 128) = r := by omega
        have hr3 : Int.tmod (nn : Int) 128 = r := by rw [Int.tmod_eq_emod_of_nonneg (by omega)]; exact hr2
        have e2 : (UInt8.ofNat (128 + r)).toNat = 128 + r := Sq.u8 (by omega)
        have hq : IntKind.u8.wrap (128 + (r : Int)) = ((UInt8.ofNat (128 + r)).toNat : Int) := by rw [e2]; simp [IntKind.wrap, IntKind.bits, IntKind.signed]; omega
        have hr4 : IntKind.u8.wrap (r : Int) = r := by simp [IntKind.wrap, IntKind.bits, IntKind.signed]; omega
        have hr5 : IntKind.i64.wrap (r : Int) = r := IntWalk.i64_in _ (by omega)
        have hr6 : IntKind.i64.wrap (5 + (r : Int)) = 5 + (r : Int) := IntWalk.i64_in _ (by omega)
        have hrun := says_run cc r hr1
        rw [run_text] at hrun
        generalize UInt8.ofNat (128 + r) = qq at *
        have HST := Lib.hid (fun W : World => (show (convert 33 9 (.slice (some ⟨W.heap.size, 0, none⟩) 6 6)).run Try.prog (W.alloc (.cells #[.int .u8 1, .int .u8 0, .int .u8 cc.toNat, .int .u8 qq.toNat, .int .u8 0, .int .u8 1] 5)) = .ok (.string (str [1, 0, cc, qq, 0, 1])) (W.alloc (.cells #[.int .u8 1, .int .u8 0, .int .u8 cc.toNat, .int .u8 qq.toNat, .int .u8 0, .int .u8 1] 5)) from (own_laid W [1, 0, cc, qq, 0, 1] (by simp) (by simp)).str))
        have hst := HST.out w3
        have O3 := Lib.hid (fun W => show Calls Try.prog 7 #[.string (str [1, 0, cc, qq, 0, 1]), .int .i64 200] W (fun e w' => e = .returned (.tuple #[.string (str (List.replicate (5 + r) cc)), .int .i64 0]) ∧ Below W.heap.size W w') from (open_any (str [1, 0, cc, qq, 0, 1]) 200 W (by omega) (by rw [str_size]; simp)).mono fun r9 w' hr9 => ⟨by rw [hr9.1, bl_str, Sq.open_says hrun, if_pos (by rw [List.length_replicate]; show 5 + r ≤ 200; omega)]; rfl, hr9.2⟩)
        have HZ := Lib.hid (show (str (List.replicate (5 + r) cc)).size = 5 + r ∧ ∀ i (h : i < (str (List.replicate (5 + r) cc)).size), (str (List.replicate (5 + r) cc))[i] = cc from ⟨by rw [str_size, List.length_replicate], fun i h => by
          have h9 := bl_getD (str (List.replicate (5 + r) cc)) i h
          rw [bl_str] at h9
          rw [← h9]
          have h10 : i < 5 + r := by rw [str_size, List.length_replicate] at h; exact h
          simp [List.getD, h10]⟩)
        generalize str (List.replicate (5 + r) cc) = Z at *
        generalize str [1, 0, cc, qq, 0, 1] = RU at *
        clear hrun e2 HST
        go_wp2_with fail
        refine (O3.out _).mono ?_
        rintro e w4 ⟨rfl, hb4⟩
        have hb3 := HB3.out.alloc HB3.out.size (.cells #[.int .u8 1, .int .u8 0, .int .u8 cc.toNat, .int .u8 qq.toNat, .int .u8 0, .int .u8 1] 5)
        have HB4 := Lib.hid (hb3.trans (hb4.mono hb3.size))
        clear hb3 hb4 O3 hst HB3
        have hzi : (Z.size : Int) = 5 + (r : Int) := by have := HZ.out.1; omega
        have hzb : ((Z.size : Int) == 5 + (r : Int)) = true := by simp [hzi]
        go_wp2_with fail
        clear hzb hzi
        go_loopg [17] Z.size (fun gk v wx => ∃ i : Nat, gk = Z.size - i ∧ i ≤ Z.size ∧ v = .int .i64 i ∧ Below w.heap.size w wx)
        case atStart => exact ⟨0, rfl, Nat.zero_le _, rfl, HB4.out⟩
        case round =>
          obtain ⟨i, rfl, hi, rfl, hbl⟩ := hrel
          have HBL := Lib.hid hbl
          clear hbl
          by_cases hlt : i < Z.size
          · have hli : (i : Int) < Z.size := by omega
            have hi0 : (0 : Int) ≤ i := by omega
            have hzc : (Z[i].toNat : Int) = (cc.toNat : Int) := by rw [HZ.out.2 i hlt]
            obtain ⟨a, ha⟩ : ∃ a : Int, (cc.toNat : Int) = a := ⟨_, rfl⟩
            have hzs : Z.size ≤ 200 := by have := HZ.out.1; omega
            go_wp2
            go_roundg (Z.size - (i + 1))
            case rel => exact ⟨i + 1, rfl, by omega, by go_num, HBL.out⟩
            case measure => omega
          · obtain rfl : i = Z.size := by omega
            have hli : ¬ (Z.size : Int) < Z.size := by omega
            go_wp2
            go_ret
            exact ⟨rfl, HBL.out⟩
  · have h1 : (2000 : Int) < s.size := by omega
    go_wp2
    go_ret
    exact ⟨rfl, hb1⟩

theorem own : ownKnob Try.prog.godebug = none := by kernel_rfl

set_option maxRecDepth 100000 in
theorem lifted (os : Os) (started : os.Started) (H : Type) (enc : TypeId × Value → H) :
    ReturnsInHanded {} Try.checked os 5 .any (Rows.squeezePlainSpec.pre6 enc Try.prog Try.f5 Rows.squeezePlainRow.domain false) (Rows.squeezePlainSpec.post enc Try.prog Try.f5 false true false false) := by
  refine returnsInHanded_of_change (C := Try.checked) own started (by kernel_rfl) Try.func5
    (ChangeSpec.witness6 (enc := enc) (C := Try.checked) false ⟨#[], #[.string ByteArray.empty, .int .u8 0, .int .u8 0], []⟩ 8 (by kernel_rfl) (by kernel_rfl) (by kernel_rfl) (by kernel_rfl)) ?_
  intro W base args ds gs before hval0 hW hcnd _
  have hval : ∀ (j : Nat) t v, Try.f5.params[j]? = some t → args[j]? = some v → Value.okWide Try.prog W .any base t v := hval0
  have hW' := hW
  obtain ⟨p, q, hA0, hV, rfl, hfz, hnd⟩ := hW
  have hA : DataW.TrodAll enc Try.prog W 0 (fun _ => true) true Try.f5.params.toList args.toList ds p := hA0
  rw [Try.params5] at hA hval
  obtain ⟨v0, vs0, d0, ds0, p0, q0, hargs, rfl, rfl, h0, r0⟩ := trodAll_cons hA
  obtain ⟨v1, vs1, d1, ds1, p1, q1, rfl, rfl, rfl, h1, r1⟩ := trodAll_cons r0
  obtain ⟨v2, vs2, d2, ds2, p2, q2, rfl, rfl, rfl, h2, r2⟩ := trodAll_cons r1
  obtain ⟨rfl, rfl, rfl⟩ := trodAll_nil r2
  obtain rfl : args = #[v0, v1, v2] := by cases args; simp_all
  obtain ⟨rfl, rfl⟩ := trodVars_none hV
  obtain ⟨a0, rfl, rfl, rfl, w0⟩ := open_string Try.underlying9 (hval 0 9 v0 rfl rfl) h0
  obtain ⟨a1, rfl, rfl, rfl, w1⟩ := open_int Try.underlying5 (hval 1 5 v1 rfl rfl) h1
  obtain ⟨a2, rfl, rfl, rfl, w2⟩ := open_int Try.underlying5 (hval 2 5 v2 rfl rfl) h2
  clear hA0 hval0
  refine (walk a0 a1 a2 w0 w1 w2 W).mono fun e W' ⟨he, hg⟩ => ?_
  subst he
  exact ⟨_, rfl, law_post Try.laid (by kernel_rfl) (by kernel_rfl) Try.underlying4 rfl rfl hW' hg⟩

theorem over : Rows.squeezePlainRow.holds Try.pinned (OpenSpec.ofChange Rows.squeezePlainSpec) :=
  OpenClaim.holds_of_wide 5 Try.f5 rfl rfl rfl rfl rfl rfl rfl ⟨rfl, rfl, rfl, rfl, rfl⟩ rfl rfl rfl rfl rfl (by kernel_rfl) Try.func5 (by kernel_rfl)
    (of_decide_eq_true (by kernel_rfl)) (by unfold Func.isWrapper; first | (rw [if_pos (by decide +kernel)]; kernel_rfl) | (rw [if_neg (by decide +kernel)]; exact ⟨rfl, rfl⟩))
    (fun os started H enc _ => lifted os started H enc)
end Go.Proofs.Ytepndjlgjaeonaa.squeezePlain

namespace Go.Proofs.Ytepndjlgjaeonaa
theorem squeezePlain_holds : Rows.SqueezePlainSaid := squeezePlain.over
end Go.Proofs.Ytepndjlgjaeonaa
