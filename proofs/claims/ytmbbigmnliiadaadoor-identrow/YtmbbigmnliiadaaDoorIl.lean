/-
  Layer 10: rows of unlike kinds or contents are unlike (IdentRow), by what the program's ident is to answer.
-/
import Derived.Test.YtmbbigmnliiadaaDoorK1
import Derived.Test.YtmbbigmnliiadaaDoorD2
import Derived.Deep.RegionHeld3
namespace Go.Proofs.YtmbbigmnliiadaaDoor.Hi
open Go.RowKit Hg Hs Hd
set_option linter.unusedVariables false

theorem row_zero2 {k : Int} {a x : ByteArray} (h : 1 ≤ k ∧ k ≤ 4) (hx : Idf.row k a = x) (q : Nat) (hq : x.size - a.size - 1 = q) (hi : q < x.size) : x[q] = 0 := by
  subst hx hq
  exact Idf.row_zero a h hi

set_option maxHeartbeats 8000000 in
set_option maxRecDepth 100000 in
theorem rows_any (F : Faces) (k o : Int) (a b : ByteArray) (w : World) (hK : Kt w) : Calls Tryd.prog 5 #[.int .i64 k, .int .i64 o, .string a, .string b] w fun e w' => e = .returned (.bool true) ∧ Below w.heap.size w w' := by
  have HF := Lib.hid F
  have HK := Lib.hid hK
  have HA := Lib.hid (awake10_any F w hK)
  clear hK F
  go_enter Tryd.func5, Tryd.ntmps5
  go_upto_region 3 with (go_at_call 6; refine HA.out.mono ?_; rintro r w1 ⟨rfl, hb1⟩)
  by_cases h1 : 1000 < a.size
  · have h1i : (1000 : Int) < a.size := by omega
    go_wp2
    go_ret
    exact ⟨rfl, hb1⟩
  · have h1i : ¬ (1000 : Int) < a.size := by omega
    by_cases h2 : 1000 < b.size
    · have h2i : (1000 : Int) < b.size := by omega
      go_wp2
      go_ret
      exact ⟨rfl, hb1⟩
    · have h2i : ¬ (1000 : Int) < b.size := by omega
      have R1 := Lib.hid (fun W h => HF.out.row k a W h (by omega))
      have R2 := Lib.hid (fun W h => HF.out.row o b W h (by omega))
      have HW := Lib.hid (fun W => HF.out.word k W)
      have HV := Lib.hid (fun W => HF.out.word o W)
      by_cases hk : 1 ≤ k ∧ k ≤ 4
      · have hws := Idf.word_some hk
        have hws6 := Idf.word_size k
        have hse : (Idf.word k).toList.isEmpty = false := by rw [toList_bl, List.isEmpty_eq_false_iff]; intro e; have := bl_length (Idf.word k); rw [e] at this; simp at this; omega
        have hlen := Idf.row_len a hk
        have htl := Idf.row_tail a hk
        have hzr := fun x => row_zero2 (a := a) (x := x) hk
        have hhd := Idf.row_head a hk
        have hxe : (Idf.row k a).toList.isEmpty = false := by rw [toList_bl, List.isEmpty_eq_false_iff]; intro e; have := bl_length (Idf.row k a); rw [e] at this; simp at this; omega
        by_cases ho : 1 ≤ o ∧ o ≤ 4
        · have hwo := Idf.word_some ho
          have hso : (Idf.word o).toList.isEmpty = false := by rw [toList_bl, List.isEmpty_eq_false_iff]; intro e; have := bl_length (Idf.word o); rw [e] at this; simp at this; omega
          have hin := Idf.row_eq (a := a) (b := b) hk ho
          obtain ⟨wd, hwd⟩ : ∃ wd, Idf.word k = wd := ⟨_, rfl⟩
          obtain ⟨x, hx⟩ : ∃ x, Idf.row k a = x := ⟨_, rfl⟩
          obtain ⟨y, hy⟩ : ∃ y, Idf.row o b = y := ⟨_, rfl⟩
          rw [hwd] at hws hws6 hse hlen hhd HW
          rw [hx] at hlen htl hhd hxe hin R1
          have hzr := hzr x hx
          rw [hy] at hin R2
          have R3 := Lib.hid (fun W => HV.out W)
          generalize Idf.word o = wo at *
          obtain ⟨p, hp⟩ : ∃ p, x.size - a.size = p := ⟨_, rfl⟩
          obtain ⟨q, hq⟩ : ∃ q, p - 1 = q := ⟨_, rfl⟩
          obtain ⟨h, hh⟩ : ∃ h, wd.size + 1 = h := ⟨_, rfl⟩
          rw [hp] at htl
          have hzr := hzr q (by rw [hp]; exact hq)
          rw [hh] at hhd
          have hdl := Idf.dec_len a.size 4 (by omega)
          have hqx : q < x.size := by omega
          have hz := hzr hqx
          have f1 : (a.size : Int) < x.size := by omega
          have f2 : IntKind.i64.wrap ((x.size : Int) - a.size) = p := (IntWalk.i64_in _ (by omega)).trans (by omega)
          have f3 : IntKind.i64.wrap ((p : Int) - 1) = q := (IntWalk.i64_in _ (by omega)).trans (by omega)
          have f4 : IntKind.i64.wrap ((wd.size : Int) + 1) = h := (IntWalk.i64_in _ (by omega)).trans (by omega)
          have f5 : (0 : Int) ≤ q := by omega
          have f6 : (q : Int) < x.size := by omega
          have f7 : (x[q].toNat : Int) = 0 := by rw [hz]; rfl
          have s1 := slice_from x p p rfl (by omega)
          have s2 := slice_to x h h rfl (by omega)
          rw [htl] at s1
          rw [hhd] at s2
          have q1 : (a.toList == a.toList) = true := by simp
          have q2 : ((wd ++ ⟨#[32]⟩ : ByteArray).toList == (wd ++ ⟨#[32]⟩ : ByteArray).toList) = true := by simp
          have e32 : (⟨#[32]⟩ : ByteArray).size = 1 := rfl
          have hcat : ¬ 9223372036854775807 < wd.size + (⟨#[32]⟩ : ByteArray).size := by omega
          have hcat2 : wd.size ≤ 9223372036854775806 := by omega
          have HIN := Lib.hid hin
          have HB1 := Lib.hid hb1
          clear hin hzr htl hhd hlen hdl hws hws6 hwo hz hp hq hh hb1 h1 h2 HV
          have HV := R3
          clear R3
          go_upto_region 8 with (first
            | (go_at_call 13; first | (with_reducible refine (R1.out _ (HK.out.under HB1.out)).mono ?_; rintro r w3 ⟨rfl, hb3⟩) | (with_reducible refine (R2.out _ (HK.out.under (HB1.out.trans (hb3.mono HB1.out.size)))).mono ?_; rintro r w4 ⟨rfl, hb4⟩))
            | (go_at_call 14; first | (with_reducible refine (HW.out _).mono ?_; rintro r w5 ⟨rfl, hb5⟩) | (with_reducible refine (HV.out _).mono ?_; rintro r w6 ⟨rfl, hb6⟩)))
          have HB6 := Lib.hid ((((HB1.out.trans (hb3.mono HB1.out.size)).trans (hb4.mono (Nat.le_trans HB1.out.size hb3.size))).trans (hb5.mono (Nat.le_trans (Nat.le_trans HB1.out.size hb3.size) hb4.size))).trans (hb6.mono (Nat.le_trans (Nat.le_trans (Nat.le_trans HB1.out.size hb3.size) hb4.size) hb5.size)))
          clear hb3 hb4 hb5 hb6 HB1 R1 R2
          by_cases hko : k = o
          · subst hko
            by_cases hab : a = b
            · subst hab
              have hxy : x = y := by rw [← hx, ← hy]
              subst hxy
              have g1 : (x.toList == x.toList) = true := by simp
              have g2 : (k == k) = true := by simp
              refine wp_region_seq (fun W => True) [(0, false, 0), (1, false, 1), (2, false, 3), (3, false, 7), (4, false, 15), (5, false, 31), (6, false, 63), (7, false, 127), (8, false, 255), (9, false, 511), (10, false, 1023), (11, false, 2047), (12, false, 4095), (13, false, 8191), (14, false, 16383), (15, false, 32767), (16, false, 65535), (17, false, 131071), (18, false, 262143), (19, false, 524287), (20, false, 1048575), (21, false, 2097151), (22, false, 4194303), (23, false, 8388607), (24, false, 16777215), (25, false, 33554431), (26, false, 67108863), (27, false, 134217727), (28, false, 268435455), (29, false, 536870911), (34, false, 1073741823), (30, true, 18253611007), (31, false, 19327352831), (32, false, 21474836479), (33, false, 25769803775), (35, true, 34359738367), (36, false, 68719476735), (37, false, 137438953471), (38, false, 274877906943), (39, false, 549755813887), (40, false, 1099511627775), (41, false, 2199023255551), (42, false, 4398046511103), (43, false, 8796093022207), (44, false, 17592186044415), (45, false, 35184372088831), (46, false, 70368744177663), (47, false, 140737488355327), (48, false, 281474976710655), (49, false, 562949953421311), (50, false, 1125899906842623), (51, false, 2251799813685247), (52, false, 4503599627370495), (53, false, 9007199254740991)]
                54 (by kernel_rfl) (by kernel_rfl) (by kernel_rfl) (fun d _ _ _ _ h => by cases d <;> exact h) (by kernel_rfl) (by kernel_rfl) trivial ?_
              refine seqH_take (.string x) rfl (Or.inl ⟨by rfl, fun W _ => by go_simp⟩) ?_
              go_simp
              refine seqH_take (.int .i64 x.size) rfl (Or.inl ⟨by rfl, fun W _ => by go_simp⟩) ?_
              go_simp
              refine seqH_take (.string a) rfl (Or.inl ⟨by rfl, fun W _ => by go_simp⟩) ?_
              go_simp
              refine seqH_take (.int .i64 a.size) rfl (Or.inl ⟨by rfl, fun W _ => by go_simp⟩) ?_
              go_simp
              refine seqH_take (.bool true) rfl (Or.inl ⟨by rfl, fun W _ => by go_simp⟩) ?_
              go_simp
              refine seqH_take (.bool true) rfl (Or.inl ⟨by rfl, fun W _ => by go_simp⟩) ?_
              go_simp
              refine seqH_take (.string x) rfl (Or.inl ⟨by rfl, fun W _ => by go_simp⟩) ?_
              go_simp
              refine seqH_take (.string x) rfl (Or.inl ⟨by rfl, fun W _ => by go_simp⟩) ?_
              go_simp
              refine seqH_take (.int .i64 x.size) rfl (Or.inl ⟨by rfl, fun W _ => by go_simp⟩) ?_
              go_simp
              refine seqH_take (.string a) rfl (Or.inl ⟨by rfl, fun W _ => by go_simp⟩) ?_
              go_simp
              refine seqH_take (.int .i64 a.size) rfl (Or.inl ⟨by rfl, fun W _ => by go_simp⟩) ?_
              go_simp
              refine seqH_take (.int .i64 p) rfl (Or.inl ⟨by rfl, fun W _ => by go_simp⟩) ?_
              go_simp
              refine seqH_take (.string a) rfl (Or.inl ⟨by rfl, fun W _ => by go_simp⟩) ?_
              go_simp
              refine seqH_take (.string a) rfl (Or.inl ⟨by rfl, fun W _ => by go_simp⟩) ?_
              go_simp
              refine seqH_take (.bool true) rfl (Or.inl ⟨by rfl, fun W _ => by go_simp⟩) ?_
              go_simp
              refine seqH_take (.bool true) rfl (Or.inl ⟨by rfl, fun W _ => by go_simp⟩) ?_
              go_simp
              refine seqH_take (.bool true) rfl (Or.inl ⟨by rfl, fun W _ => by go_simp⟩) ?_
              go_simp
              refine seqH_take (.string x) rfl (Or.inl ⟨by rfl, fun W _ => by go_simp⟩) ?_
              go_simp
              refine seqH_take (.string x) rfl (Or.inl ⟨by rfl, fun W _ => by go_simp⟩) ?_
              go_simp
              refine seqH_take (.int .i64 x.size) rfl (Or.inl ⟨by rfl, fun W _ => by go_simp⟩) ?_
              go_simp
              refine seqH_take (.string a) rfl (Or.inl ⟨by rfl, fun W _ => by go_simp⟩) ?_
              go_simp
              refine seqH_take (.int .i64 a.size) rfl (Or.inl ⟨by rfl, fun W _ => by go_simp⟩) ?_
              go_simp
              refine seqH_take (.int .i64 p) rfl (Or.inl ⟨by rfl, fun W _ => by go_simp⟩) ?_
              go_simp
              refine seqH_take (.int .i64 q) rfl (Or.inl ⟨by rfl, fun W _ => by go_simp⟩) ?_
              go_simp
              refine seqH_take (.int .u8 0) rfl (Or.inl ⟨by rfl, fun W _ => by go_simp⟩) ?_
              go_simp
              refine seqH_take (.bool true) rfl (Or.inl ⟨by rfl, fun W _ => by go_simp⟩) ?_
              go_simp
              refine seqH_take (.bool true) rfl (Or.inl ⟨by rfl, fun W _ => by go_simp⟩) ?_
              go_simp
              refine seqH_take (.bool true) rfl (Or.inl ⟨by rfl, fun W _ => by go_simp⟩) ?_
              go_simp
              refine seqH_take (.string x) rfl (Or.inl ⟨by rfl, fun W _ => by go_simp⟩) ?_
              go_simp
              refine seqH_take (.int .i64 k) rfl (Or.inl ⟨by rfl, fun W _ => by go_simp⟩) ?_
              go_simp
              refine seqH_take (.int .i64 k) rfl (Or.inl ⟨by rfl, fun W _ => by go_simp⟩) ?_
              go_simp
              refine seqH_call rfl (by rfl) (fun K hK => ?_)
              have HKK := Lib.hid hK
              clear hK
              go_simp
              refine (HW.out _).mono ?_
              rintro r w7 ⟨rfl, hb7⟩
              refine HKK.out _ _ trivial ?_
              clear HKK K
              refine seqH_take (.int .i64 wd.size) rfl (Or.inl ⟨by rfl, fun W _ => by go_simp⟩) ?_
              go_simp
              refine seqH_take (.int .i64 h) rfl (Or.inl ⟨by rfl, fun W _ => by go_simp⟩) ?_
              go_simp
              refine seqH_take (.string (wd ++ ⟨#[32]⟩)) rfl (Or.inl ⟨by rfl, fun W _ => by go_simp⟩) ?_
              go_simp
              refine seqH_call rfl (by rfl) (fun K hK => ?_)
              have HKK := Lib.hid hK
              clear hK
              go_simp
              refine (HW.out _).mono ?_
              rintro r w8 ⟨rfl, hb8⟩
              refine HKK.out _ _ trivial ?_
              clear HKK K
              refine seqH_take (.string (wd ++ ⟨#[32]⟩)) rfl (Or.inl ⟨by rfl, fun W _ => by go_simp⟩) ?_
              go_simp
              refine seqH_take (.bool true) rfl (Or.inl ⟨by rfl, fun W _ => by go_simp⟩) ?_
              go_simp
              refine seqH_take (.bool true) rfl (Or.inl ⟨by rfl, fun W _ => by go_simp⟩) ?_
              go_simp
              refine seqH_take (.bool true) rfl (Or.inl ⟨by rfl, fun W _ => by go_simp⟩) ?_
              go_simp
              refine seqH_take (.string x) rfl (Or.inl ⟨by rfl, fun W _ => by go_simp⟩) ?_
              go_simp
              refine seqH_take (.string x) rfl (Or.inl ⟨by rfl, fun W _ => by go_simp⟩) ?_
              go_simp
              refine seqH_take (.bool true) rfl (Or.inl ⟨by rfl, fun W _ => by go_simp⟩) ?_
              go_simp
              refine seqH_take (.int .i64 k) rfl (Or.inl ⟨by rfl, fun W _ => by go_simp⟩) ?_
              go_simp
              refine seqH_take (.int .i64 k) rfl (Or.inl ⟨by rfl, fun W _ => by go_simp⟩) ?_
              go_simp
              refine seqH_take (.bool true) rfl (Or.inl ⟨by rfl, fun W _ => by go_simp⟩) ?_
              go_simp
              refine seqH_take (.bool true) rfl (Or.inl ⟨by rfl, fun W _ => by go_simp⟩) ?_
              go_simp
              refine seqH_take (.string a) rfl (Or.inl ⟨by rfl, fun W _ => by go_simp⟩) ?_
              go_simp
              refine seqH_take (.string a) rfl (Or.inl ⟨by rfl, fun W _ => by go_simp⟩) ?_
              go_simp
              refine seqH_take (.bool true) rfl (Or.inl ⟨by rfl, fun W _ => by go_simp⟩) ?_
              go_simp
              refine seqH_take (.bool true) rfl (Or.inl ⟨by rfl, fun W _ => by go_simp⟩) ?_
              go_simp
              refine seqH_take (.bool true) rfl (Or.inl ⟨by rfl, fun W _ => by go_simp⟩) ?_
              go_simp
              refine seqH_take (.bool true) rfl (Or.inl ⟨by rfl, fun W _ => by go_simp⟩) ?_
              go_simp
              refine seqH_take (.bool true) rfl (Or.inl ⟨by rfl, fun W _ => by go_simp⟩) ?_
              go_simp
              refine seqH_done ?_
              have HB9 := Lib.hid ((HB6.out.drew.trans (hb7.mono HB6.out.drew.size)).trans (hb8.mono (Nat.le_trans HB6.out.drew.size hb7.size)))
              clear hb7 hb8 HB6
              go_wp2
              go_ret
              exact ⟨rfl, HB9.out⟩
            · have hxy : x ≠ y := fun e => hab (HIN.out.1 e).2
              have g1 := str_bne hxy
              have g2 : (k == k) = true := by simp
              have g3 := str_bne hab
              refine wp_region_seq (fun W => True) [(0, false, 0), (1, false, 1), (2, false, 3), (3, false, 7), (4, false, 15), (5, false, 31), (6, false, 63), (7, false, 127), (8, false, 255), (9, false, 511), (10, false, 1023), (11, false, 2047), (12, false, 4095), (13, false, 8191), (14, false, 16383), (15, false, 32767), (16, false, 65535), (17, false, 131071), (18, false, 262143), (19, false, 524287), (20, false, 1048575), (21, false, 2097151), (22, false, 4194303), (23, false, 8388607), (24, false, 16777215), (25, false, 33554431), (26, false, 67108863), (27, false, 134217727), (28, false, 268435455), (29, false, 536870911), (34, false, 1073741823), (30, true, 18253611007), (31, false, 19327352831), (32, false, 21474836479), (33, false, 25769803775), (35, true, 34359738367), (36, false, 68719476735), (37, false, 137438953471), (38, false, 274877906943), (39, false, 549755813887), (40, false, 1099511627775), (41, false, 2199023255551), (42, false, 4398046511103), (43, false, 8796093022207), (44, false, 17592186044415), (45, false, 35184372088831), (46, false, 70368744177663), (47, false, 140737488355327), (48, false, 281474976710655), (49, false, 562949953421311), (50, false, 1125899906842623), (51, false, 2251799813685247), (52, false, 4503599627370495), (53, false, 9007199254740991)]
                54 (by kernel_rfl) (by kernel_rfl) (by kernel_rfl) (fun d _ _ _ _ h => by cases d <;> exact h) (by kernel_rfl) (by kernel_rfl) trivial ?_
              refine seqH_take (.string x) rfl (Or.inl ⟨by rfl, fun W _ => by go_simp⟩) ?_
              go_simp
              refine seqH_take (.int .i64 x.size) rfl (Or.inl ⟨by rfl, fun W _ => by go_simp⟩) ?_
              go_simp
              refine seqH_take (.string a) rfl (Or.inl ⟨by rfl, fun W _ => by go_simp⟩) ?_
              go_simp
              refine seqH_take (.int .i64 a.size) rfl (Or.inl ⟨by rfl, fun W _ => by go_simp⟩) ?_
              go_simp
              refine seqH_take (.bool true) rfl (Or.inl ⟨by rfl, fun W _ => by go_simp⟩) ?_
              go_simp
              refine seqH_take (.bool true) rfl (Or.inl ⟨by rfl, fun W _ => by go_simp⟩) ?_
              go_simp
              refine seqH_take (.string x) rfl (Or.inl ⟨by rfl, fun W _ => by go_simp⟩) ?_
              go_simp
              refine seqH_take (.string x) rfl (Or.inl ⟨by rfl, fun W _ => by go_simp⟩) ?_
              go_simp
              refine seqH_take (.int .i64 x.size) rfl (Or.inl ⟨by rfl, fun W _ => by go_simp⟩) ?_
              go_simp
              refine seqH_take (.string a) rfl (Or.inl ⟨by rfl, fun W _ => by go_simp⟩) ?_
              go_simp
              refine seqH_take (.int .i64 a.size) rfl (Or.inl ⟨by rfl, fun W _ => by go_simp⟩) ?_
              go_simp
              refine seqH_take (.int .i64 p) rfl (Or.inl ⟨by rfl, fun W _ => by go_simp⟩) ?_
              go_simp
              refine seqH_take (.string a) rfl (Or.inl ⟨by rfl, fun W _ => by go_simp⟩) ?_
              go_simp
              refine seqH_take (.string a) rfl (Or.inl ⟨by rfl, fun W _ => by go_simp⟩) ?_
              go_simp
              refine seqH_take (.bool true) rfl (Or.inl ⟨by rfl, fun W _ => by go_simp⟩) ?_
              go_simp
              refine seqH_take (.bool true) rfl (Or.inl ⟨by rfl, fun W _ => by go_simp⟩) ?_
              go_simp
              refine seqH_take (.bool true) rfl (Or.inl ⟨by rfl, fun W _ => by go_simp⟩) ?_
              go_simp
              refine seqH_take (.string x) rfl (Or.inl ⟨by rfl, fun W _ => by go_simp⟩) ?_
              go_simp
              refine seqH_take (.string x) rfl (Or.inl ⟨by rfl, fun W _ => by go_simp⟩) ?_
              go_simp
              refine seqH_take (.int .i64 x.size) rfl (Or.inl ⟨by rfl, fun W _ => by go_simp⟩) ?_
              go_simp
              refine seqH_take (.string a) rfl (Or.inl ⟨by rfl, fun W _ => by go_simp⟩) ?_
              go_simp
              refine seqH_take (.int .i64 a.size) rfl (Or.inl ⟨by rfl, fun W _ => by go_simp⟩) ?_
              go_simp
              refine seqH_take (.int .i64 p) rfl (Or.inl ⟨by rfl, fun W _ => by go_simp⟩) ?_
              go_simp
              refine seqH_take (.int .i64 q) rfl (Or.inl ⟨by rfl, fun W _ => by go_simp⟩) ?_
              go_simp
              refine seqH_take (.int .u8 0) rfl (Or.inl ⟨by rfl, fun W _ => by go_simp⟩) ?_
              go_simp
              refine seqH_take (.bool true) rfl (Or.inl ⟨by rfl, fun W _ => by go_simp⟩) ?_
              go_simp
              refine seqH_take (.bool true) rfl (Or.inl ⟨by rfl, fun W _ => by go_simp⟩) ?_
              go_simp
              refine seqH_take (.bool true) rfl (Or.inl ⟨by rfl, fun W _ => by go_simp⟩) ?_
              go_simp
              refine seqH_take (.string x) rfl (Or.inl ⟨by rfl, fun W _ => by go_simp⟩) ?_
              go_simp
              refine seqH_take (.int .i64 k) rfl (Or.inl ⟨by rfl, fun W _ => by go_simp⟩) ?_
              go_simp
              refine seqH_take (.int .i64 k) rfl (Or.inl ⟨by rfl, fun W _ => by go_simp⟩) ?_
              go_simp
              refine seqH_call rfl (by rfl) (fun K hK => ?_)
              have HKK := Lib.hid hK
              clear hK
              go_simp
              refine (HW.out _).mono ?_
              rintro r w7 ⟨rfl, hb7⟩
              refine HKK.out _ _ trivial ?_
              clear HKK K
              refine seqH_take (.int .i64 wd.size) rfl (Or.inl ⟨by rfl, fun W _ => by go_simp⟩) ?_
              go_simp
              refine seqH_take (.int .i64 h) rfl (Or.inl ⟨by rfl, fun W _ => by go_simp⟩) ?_
              go_simp
              refine seqH_take (.string (wd ++ ⟨#[32]⟩)) rfl (Or.inl ⟨by rfl, fun W _ => by go_simp⟩) ?_
              go_simp
              refine seqH_call rfl (by rfl) (fun K hK => ?_)
              have HKK := Lib.hid hK
              clear hK
              go_simp
              refine (HW.out _).mono ?_
              rintro r w8 ⟨rfl, hb8⟩
              refine HKK.out _ _ trivial ?_
              clear HKK K
              refine seqH_take (.string (wd ++ ⟨#[32]⟩)) rfl (Or.inl ⟨by rfl, fun W _ => by go_simp⟩) ?_
              go_simp
              refine seqH_take (.bool true) rfl (Or.inl ⟨by rfl, fun W _ => by go_simp⟩) ?_
              go_simp
              refine seqH_take (.bool true) rfl (Or.inl ⟨by rfl, fun W _ => by go_simp⟩) ?_
              go_simp
              refine seqH_take (.bool true) rfl (Or.inl ⟨by rfl, fun W _ => by go_simp⟩) ?_
              go_simp
              refine seqH_take (.string x) rfl (Or.inl ⟨by rfl, fun W _ => by go_simp⟩) ?_
              go_simp
              refine seqH_take (.string y) rfl (Or.inl ⟨by rfl, fun W _ => by go_simp⟩) ?_
              go_simp
              refine seqH_take (.bool false) rfl (Or.inl ⟨by rfl, fun W _ => by go_simp⟩) ?_
              go_simp
              refine seqH_take (.int .i64 k) rfl (Or.inl ⟨by rfl, fun W _ => by go_simp⟩) ?_
              go_simp
              refine seqH_take (.int .i64 k) rfl (Or.inl ⟨by rfl, fun W _ => by go_simp⟩) ?_
              go_simp
              refine seqH_take (.bool true) rfl (Or.inl ⟨by rfl, fun W _ => by go_simp⟩) ?_
              go_simp
              refine seqH_take (.bool true) rfl (Or.inl ⟨by rfl, fun W _ => by go_simp⟩) ?_
              go_simp
              refine seqH_take (.string a) rfl (Or.inl ⟨by rfl, fun W _ => by go_simp⟩) ?_
              go_simp
              refine seqH_take (.string b) rfl (Or.inl ⟨by rfl, fun W _ => by go_simp⟩) ?_
              go_simp
              refine seqH_take (.bool false) rfl (Or.inl ⟨by rfl, fun W _ => by go_simp⟩) ?_
              go_simp
              refine seqH_take (.bool false) rfl (Or.inl ⟨by rfl, fun W _ => by go_simp⟩) ?_
              go_simp
              refine seqH_take (.bool true) rfl (Or.inl ⟨by rfl, fun W _ => by go_simp⟩) ?_
              go_simp
              refine seqH_take (.bool true) rfl (Or.inl ⟨by rfl, fun W _ => by go_simp⟩) ?_
              go_simp
              refine seqH_take (.bool true) rfl (Or.inl ⟨by rfl, fun W _ => by go_simp⟩) ?_
              go_simp
              refine seqH_done ?_
              have HB9 := Lib.hid ((HB6.out.drew.trans (hb7.mono HB6.out.drew.size)).trans (hb8.mono (Nat.le_trans HB6.out.drew.size hb7.size)))
              clear hb7 hb8 HB6
              go_wp2
              go_ret
              exact ⟨rfl, HB9.out⟩
          · have hxy : x ≠ y := fun e => hko (HIN.out.1 e).1
            have g1 := str_bne hxy
            have g2 : (k == o) = false := beq_eq_false_iff_ne.2 hko
            refine wp_region_seq (fun W => True) [(0, false, 0), (1, false, 1), (2, false, 3), (3, false, 7), (4, false, 15), (5, false, 31), (6, false, 63), (7, false, 127), (8, false, 255), (9, false, 511), (10, false, 1023), (11, false, 2047), (12, false, 4095), (13, false, 8191), (14, false, 16383), (15, false, 32767), (16, false, 65535), (17, false, 131071), (18, false, 262143), (19, false, 524287), (20, false, 1048575), (21, false, 2097151), (22, false, 4194303), (23, false, 8388607), (24, false, 16777215), (25, false, 33554431), (26, false, 67108863), (27, false, 134217727), (28, false, 268435455), (29, false, 536870911), (34, false, 1073741823), (30, true, 18253611007), (31, false, 19327352831), (32, false, 21474836479), (33, false, 25769803775), (35, true, 34359738367), (36, false, 68719476735), (37, false, 137438953471), (38, false, 274877906943), (39, false, 549755813887), (40, false, 1099511627775), (41, false, 2199023255551), (42, false, 4398046511103), (43, false, 8796093022207), (44, false, 17592186044415), (45, false, 35184372088831), (46, false, 70368744177663), (47, false, 140737488355327), (48, false, 281474976710655), (49, false, 562949953421311), (50, false, 1125899906842623), (51, false, 2251799813685247), (52, false, 4503599627370495), (53, false, 9007199254740991)]
              54 (by kernel_rfl) (by kernel_rfl) (by kernel_rfl) (fun d _ _ _ _ h => by cases d <;> exact h) (by kernel_rfl) (by kernel_rfl) trivial ?_
            refine seqH_take (.string x) rfl (Or.inl ⟨by rfl, fun W _ => by go_simp⟩) ?_
            go_simp
            refine seqH_take (.int .i64 x.size) rfl (Or.inl ⟨by rfl, fun W _ => by go_simp⟩) ?_
            go_simp
            refine seqH_take (.string a) rfl (Or.inl ⟨by rfl, fun W _ => by go_simp⟩) ?_
            go_simp
            refine seqH_take (.int .i64 a.size) rfl (Or.inl ⟨by rfl, fun W _ => by go_simp⟩) ?_
            go_simp
            refine seqH_take (.bool true) rfl (Or.inl ⟨by rfl, fun W _ => by go_simp⟩) ?_
            go_simp
            refine seqH_take (.bool true) rfl (Or.inl ⟨by rfl, fun W _ => by go_simp⟩) ?_
            go_simp
            refine seqH_take (.string x) rfl (Or.inl ⟨by rfl, fun W _ => by go_simp⟩) ?_
            go_simp
            refine seqH_take (.string x) rfl (Or.inl ⟨by rfl, fun W _ => by go_simp⟩) ?_
            go_simp
            refine seqH_take (.int .i64 x.size) rfl (Or.inl ⟨by rfl, fun W _ => by go_simp⟩) ?_
            go_simp
            refine seqH_take (.string a) rfl (Or.inl ⟨by rfl, fun W _ => by go_simp⟩) ?_
            go_simp
            refine seqH_take (.int .i64 a.size) rfl (Or.inl ⟨by rfl, fun W _ => by go_simp⟩) ?_
            go_simp
            refine seqH_take (.int .i64 p) rfl (Or.inl ⟨by rfl, fun W _ => by go_simp⟩) ?_
            go_simp
            refine seqH_take (.string a) rfl (Or.inl ⟨by rfl, fun W _ => by go_simp⟩) ?_
            go_simp
            refine seqH_take (.string a) rfl (Or.inl ⟨by rfl, fun W _ => by go_simp⟩) ?_
            go_simp
            refine seqH_take (.bool true) rfl (Or.inl ⟨by rfl, fun W _ => by go_simp⟩) ?_
            go_simp
            refine seqH_take (.bool true) rfl (Or.inl ⟨by rfl, fun W _ => by go_simp⟩) ?_
            go_simp
            refine seqH_take (.bool true) rfl (Or.inl ⟨by rfl, fun W _ => by go_simp⟩) ?_
            go_simp
            refine seqH_take (.string x) rfl (Or.inl ⟨by rfl, fun W _ => by go_simp⟩) ?_
            go_simp
            refine seqH_take (.string x) rfl (Or.inl ⟨by rfl, fun W _ => by go_simp⟩) ?_
            go_simp
            refine seqH_take (.int .i64 x.size) rfl (Or.inl ⟨by rfl, fun W _ => by go_simp⟩) ?_
            go_simp
            refine seqH_take (.string a) rfl (Or.inl ⟨by rfl, fun W _ => by go_simp⟩) ?_
            go_simp
            refine seqH_take (.int .i64 a.size) rfl (Or.inl ⟨by rfl, fun W _ => by go_simp⟩) ?_
            go_simp
            refine seqH_take (.int .i64 p) rfl (Or.inl ⟨by rfl, fun W _ => by go_simp⟩) ?_
            go_simp
            refine seqH_take (.int .i64 q) rfl (Or.inl ⟨by rfl, fun W _ => by go_simp⟩) ?_
            go_simp
            refine seqH_take (.int .u8 0) rfl (Or.inl ⟨by rfl, fun W _ => by go_simp⟩) ?_
            go_simp
            refine seqH_take (.bool true) rfl (Or.inl ⟨by rfl, fun W _ => by go_simp⟩) ?_
            go_simp
            refine seqH_take (.bool true) rfl (Or.inl ⟨by rfl, fun W _ => by go_simp⟩) ?_
            go_simp
            refine seqH_take (.bool true) rfl (Or.inl ⟨by rfl, fun W _ => by go_simp⟩) ?_
            go_simp
            refine seqH_take (.string x) rfl (Or.inl ⟨by rfl, fun W _ => by go_simp⟩) ?_
            go_simp
            refine seqH_take (.int .i64 k) rfl (Or.inl ⟨by rfl, fun W _ => by go_simp⟩) ?_
            go_simp
            refine seqH_take (.int .i64 k) rfl (Or.inl ⟨by rfl, fun W _ => by go_simp⟩) ?_
            go_simp
            refine seqH_call rfl (by rfl) (fun K hK => ?_)
            have HKK := Lib.hid hK
            clear hK
            go_simp
            refine (HW.out _).mono ?_
            rintro r w7 ⟨rfl, hb7⟩
            refine HKK.out _ _ trivial ?_
            clear HKK K
            refine seqH_take (.int .i64 wd.size) rfl (Or.inl ⟨by rfl, fun W _ => by go_simp⟩) ?_
            go_simp
            refine seqH_take (.int .i64 h) rfl (Or.inl ⟨by rfl, fun W _ => by go_simp⟩) ?_
            go_simp
            refine seqH_take (.string (wd ++ ⟨#[32]⟩)) rfl (Or.inl ⟨by rfl, fun W _ => by go_simp⟩) ?_
            go_simp
            refine seqH_call rfl (by rfl) (fun K hK => ?_)
            have HKK := Lib.hid hK
            clear hK
            go_simp
            refine (HW.out _).mono ?_
            rintro r w8 ⟨rfl, hb8⟩
            refine HKK.out _ _ trivial ?_
            clear HKK K
            refine seqH_take (.string (wd ++ ⟨#[32]⟩)) rfl (Or.inl ⟨by rfl, fun W _ => by go_simp⟩) ?_
            go_simp
            refine seqH_take (.bool true) rfl (Or.inl ⟨by rfl, fun W _ => by go_simp⟩) ?_
            go_simp
            refine seqH_take (.bool true) rfl (Or.inl ⟨by rfl, fun W _ => by go_simp⟩) ?_
            go_simp
            refine seqH_take (.bool true) rfl (Or.inl ⟨by rfl, fun W _ => by go_simp⟩) ?_
            go_simp
            refine seqH_take (.string x) rfl (Or.inl ⟨by rfl, fun W _ => by go_simp⟩) ?_
            go_simp
            refine seqH_take (.string y) rfl (Or.inl ⟨by rfl, fun W _ => by go_simp⟩) ?_
            go_simp
            refine seqH_take (.bool false) rfl (Or.inl ⟨by rfl, fun W _ => by go_simp⟩) ?_
            go_simp
            refine seqH_take (.int .i64 k) rfl (Or.inl ⟨by rfl, fun W _ => by go_simp⟩) ?_
            go_simp
            refine seqH_take (.int .i64 o) rfl (Or.inl ⟨by rfl, fun W _ => by go_simp⟩) ?_
            go_simp
            refine seqH_take (.bool false) rfl (Or.inl ⟨by rfl, fun W _ => by go_simp⟩) ?_
            go_simp
            refine seqH_take (.bool false) rfl (Or.inl ⟨by rfl, fun W _ => by go_simp⟩) ?_
            go_simp
            refine seqH_take undef rfl (Or.inr ⟨by rfl, rfl⟩) ?_
            go_simp
            refine seqH_take undef rfl (Or.inr ⟨by rfl, rfl⟩) ?_
            go_simp
            refine seqH_take undef rfl (Or.inr ⟨by rfl, rfl⟩) ?_
            go_simp
            refine seqH_take (.bool false) rfl (Or.inl ⟨by rfl, fun W _ => by go_simp⟩) ?_
            go_simp
            refine seqH_take (.bool true) rfl (Or.inl ⟨by rfl, fun W _ => by go_simp⟩) ?_
            go_simp
            refine seqH_take (.bool true) rfl (Or.inl ⟨by rfl, fun W _ => by go_simp⟩) ?_
            go_simp
            refine seqH_take (.bool true) rfl (Or.inl ⟨by rfl, fun W _ => by go_simp⟩) ?_
            go_simp
            refine seqH_done ?_
            have HB9 := Lib.hid ((HB6.out.drew.trans (hb7.mono HB6.out.drew.size)).trans (hb8.mono (Nat.le_trans HB6.out.drew.size hb7.size)))
            clear hb7 hb8 HB6
            go_wp2
            go_ret
            exact ⟨rfl, HB9.out⟩
        · rw [Idf.word_no ho] at HV
          rw [Idf.row_none b ho] at R2
          generalize Idf.word k = wd at *
          generalize Idf.row k a = x at *
          have HB1 := Lib.hid hb1
          clear hzr htl hhd hlen hws hws6 hb1 h1 h2
          go_wp2_with (first
            | (go_at_call 13; first | (with_reducible refine (R1.out _ (HK.out.under HB1.out)).mono ?_; rintro r w3 ⟨rfl, hb3⟩; have HB1 := Lib.hid (HB1.out.trans (hb3.mono HB1.out.size)); clear hb3) | (with_reducible refine (R2.out _ (HK.out.under HB1.out)).mono ?_; rintro r w4 ⟨rfl, hb4⟩; have HB1 := Lib.hid (HB1.out.trans (hb4.mono HB1.out.size)); clear hb4))
            | (go_at_call 14; first | (with_reducible refine (HW.out _).mono ?_; rintro r w5 ⟨rfl, hb5⟩; have HB1 := Lib.hid (HB1.out.trans (hb5.mono HB1.out.size)); clear hb5) | (with_reducible refine (HV.out _).mono ?_; rintro r w6 ⟨rfl, hb6⟩; have HB1 := Lib.hid (HB1.out.trans (hb6.mono HB1.out.size)); clear hb6)))
          go_ret
          exact ⟨rfl, HB1.out⟩
      · rw [Idf.word_no hk] at HW
        rw [Idf.row_none a hk] at R1
        generalize Idf.row o b = y at *
        generalize Idf.word o = wo at *
        have HB1 := Lib.hid hb1
        clear hb1 h1 h2
        go_wp2_with (first
          | (go_at_call 13; first | (with_reducible refine (R1.out _ (HK.out.under HB1.out)).mono ?_; rintro r w3 ⟨rfl, hb3⟩; have HB1 := Lib.hid (HB1.out.trans (hb3.mono HB1.out.size)); clear hb3) | (with_reducible refine (R2.out _ (HK.out.under HB1.out)).mono ?_; rintro r w4 ⟨rfl, hb4⟩; have HB1 := Lib.hid (HB1.out.trans (hb4.mono HB1.out.size)); clear hb4))
          | (go_at_call 14; first | (with_reducible refine (HW.out _).mono ?_; rintro r w5 ⟨rfl, hb5⟩; have HB1 := Lib.hid (HB1.out.trans (hb5.mono HB1.out.size)); clear hb5) | (with_reducible refine (HV.out _).mono ?_; rintro r w6 ⟨rfl, hb6⟩; have HB1 := Lib.hid (HB1.out.trans (hb6.mono HB1.out.size)); clear hb6)))
        go_ret
        exact ⟨rfl, HB1.out⟩
end Go.Proofs.YtmbbigmnliiadaaDoor.Hi
