/-
  Layer 10: the program's Row, by the library's contract of strconv.Itoa.
  Layer 10: the program's Id and Of; its ident, function by function.
-/
import Derived.Test.YtmbbigmnliiadaaDoorK1
import Derived.Test.YtmbbigmnliiadaaDoorLay
import Derived.Test.YtmbbigmnliiadaaDoorQ2
import Derived.Test.YtmbbigmnliiadaaDoorDw
namespace Go.Proofs.YtmbbigmnliiadaaDoor.Hi
open Go.RowKit Hg Hs Hd
set_option linter.unusedVariables false

theorem below_itoa (w : World) (k : Nat) (os : Array Obj) : Below w.heap.size w (Sort.grow (w.drewN k) os) :=
  ⟨rfl, rfl, rfl, by simp [World.drewN], fun i hi => Sort.heap_grow_old (w.drewN k) os hi⟩
theorem itoa_any (n : Nat) (w : World) (hK : Kt w) (hn : n ≤ 100000) : Calls Tryd.prog 25 #[.int .i64 n] w fun e w' => e = .returned (.string (str (Idf.dec n))) ∧ Below w.heap.size w w' :=
  (Tryd.strconv_Itoa (n : Int) (by omega) (by omega) w hK.tab).mono (by
    rintro e w' ⟨rfl, k, os, rfl⟩
    exact ⟨by rw [Idf.itoa_lib]; rfl, below_itoa w k os⟩)
theorem row_size2 (k : Int) (c : ByteArray) (hc : c.size ≤ 99999) : (Idf.row k c).size ≤ c.size + 13 := by
  have h := Idf.dec_len c.size 4 (by omega)
  have h2 := Idf.word_size k
  unfold Idf.row
  split
  · simp only [ByteArray.size_append, str_size]
    have e1 : (⟨#[32]⟩ : ByteArray).size = 1 := rfl
    have e2 : (⟨#[0]⟩ : ByteArray).size = 1 := rfl
    omega
  · exact Nat.zero_le _

set_option maxHeartbeats 2000000 in
set_option maxRecDepth 100000 in
theorem row_any (k : Int) (c : ByteArray) (w : World) (hK : Kt w) (hc : c.size ≤ 99999) : Calls Tryd.prog 13 #[.int .i64 k, .string c] w fun e w' => e = .returned (.string (Idf.row k c)) ∧ Below w.heap.size w w' := by
  have HW := Lib.hid (fun w' => word_any k w')
  have HK := Lib.hid hK
  clear hK
  by_cases h : 1 ≤ k ∧ k ≤ 4
  · have HE := Lib.hid (show Idf.row k c = Idf.word k ++ ⟨#[32]⟩ ++ str (Idf.dec c.size) ++ ⟨#[0]⟩ ++ c by unfold Idf.row; rw [if_pos h])
    have hws := Idf.word_some h
    have hws2 := Idf.word_size k
    have hse : (Idf.word k).toList.isEmpty = false := by rw [toList_bl, List.isEmpty_eq_false_iff]; intro e; have := bl_length (Idf.word k); rw [e] at this; simp at this; omega
    have HD := Lib.hid (fun w' hk => itoa_any c.size w' hk (by omega))
    have hds : (str (Idf.dec c.size)).size ≤ 5 := by rw [str_size]; exact Idf.dec_len c.size 4 (by omega)
    generalize str (Idf.dec c.size) = d at *
    generalize Idf.word k = x at *
    have e1 : (⟨#[32]⟩ : ByteArray).size = 1 := rfl
    have e2 : (⟨#[0]⟩ : ByteArray).size = 1 := rfl
    have k1 : ¬ 9223372036854775807 < x.size + (⟨#[32]⟩ : ByteArray).size := by omega
    have k2 : ¬ 9223372036854775807 < (x ++ ⟨#[32]⟩).size + d.size := by rw [ByteArray.size_append]; omega
    have k3 : ¬ 9223372036854775807 < (x ++ ⟨#[32]⟩ ++ d).size + (⟨#[0]⟩ : ByteArray).size := by rw [ByteArray.size_append, ByteArray.size_append]; omega
    have k4 : ¬ 9223372036854775807 < (x ++ ⟨#[32]⟩ ++ d ++ ⟨#[0]⟩).size + c.size := by rw [ByteArray.size_append, ByteArray.size_append, ByteArray.size_append]; omega
    go_enter Tryd.func13, Tryd.ntmps13
    go_wp2_with (first | (go_at_call 14; refine (HW.out _).mono ?_; rintro r w2 ⟨rfl, hb2⟩) | (go_at_call 25; refine (HD.out _ (HK.out.under hb2)).mono ?_; rintro r w3 ⟨rfl, hb3⟩))
    go_ret
    exact ⟨by rw [HE.out]; rfl, hb2.trans (hb3.mono hb2.size)⟩
  · have HE := Lib.hid (show Idf.row k c = ⟨#[]⟩ by unfold Idf.row; rw [if_neg h])
    rw [Idf.word_no h] at HW
    go_enter Tryd.func13, Tryd.ntmps13
    go_wp2_with (go_at_call 14; refine (HW.out _).mono ?_; rintro r w2 ⟨rfl, hb2⟩)
    go_ret
    exact ⟨by rw [HE.out]; rfl, hb2⟩
end Go.Proofs.YtmbbigmnliiadaaDoor.Hi
namespace Go.Proofs.YtmbbigmnliiadaaDoor.Hi
open Go.RowKit Hg Hs Hd
set_option linter.unusedVariables false

set_option maxHeartbeats 8000000 in
set_option maxRecDepth 100000 in
theorem scanned_any (sp k : Int) (c : ByteArray) (w : World) (hK : Kt w) (hc : c.size ≤ 90000) (hn : sp = 1 → c.size ≤ 9000) :
    Calls Tryd.prog 23 #[.int .i64 sp, .int .i64 k, .string c, .func (.func 24) #[] #[]] w fun e w' => e = .returned (.tuple #[.string (Idf.idF sp k c).1, .int .i64 (Idf.idF sp k c).2]) ∧ Below w.heap.size w w' := by
  have HK := Lib.hid hK
  have HW := Lib.hid (fun W => word_any k W)
  have HZ := Lib.hid (fun W => Size_any sp W)
  have HR := Lib.hid (fun W hk => row_any k c W hk (by omega))
  have hrs := row_size2 k c (by omega)
  clear hK
  by_cases h : 1 ≤ k ∧ k ≤ 4
  · have hse : (Idf.word k).toList.isEmpty = false := by rw [toList_bl, List.isEmpty_eq_false_iff]; intro e; have h8 := Idf.word_some h; have h9 := bl_length (Idf.word k); rw [e] at h9; simp at h9; omega
    generalize hwd : Idf.word k = wd at *
    clear hwd
    by_cases h2 : sp = 1 ∨ sp = 2
    · by_cases h3 : 65536 < c.size
      · have h3i : (65536 : Int) < c.size := by omega
        have HE := Lib.hid (Idf.id_limit h h2 h3)
        generalize Idf.row k c = x at *
        clear h h3 hn HR
        rcases h2 with rfl | rfl
        · rw [if_pos rfl] at HZ
          go_enter Tryd.func23, Tryd.ntmps23
          go_wp2_with (first | (go_at_call 14; refine (HW.out _).mono ?_; rintro r w2 ⟨rfl, hb2⟩) | (go_at_call 29; refine (HZ.out _).mono ?_; rintro r w3 ⟨rfl, rfl⟩))
          go_ret2
          exact ⟨by rw [HE.out]; rfl, hb2⟩
        · rw [if_neg (by decide), if_pos rfl] at HZ
          go_enter Tryd.func23, Tryd.ntmps23
          go_wp2_with (first | (go_at_call 14; refine (HW.out _).mono ?_; rintro r w2 ⟨rfl, hb2⟩) | (go_at_call 29; refine (HZ.out _).mono ?_; rintro r w3 ⟨rfl, rfl⟩))
          go_ret2
          exact ⟨by rw [HE.out]; rfl, hb2⟩
      · have h3i : ¬ (65536 : Int) < c.size := by omega
        rcases h2 with rfl | rfl
        · have HC := Lib.hid (fun W => Hd.scan_any (Idf.row k c) W (by have := hn rfl; omega))
          rw [if_pos rfl] at HZ
          cases hm : Dv.scan (Idf.row k c).data.toList with
          | true =>
            have HE := Lib.hid (Idf.id_marked h h3 hm)
            rw [hm] at HC
            generalize Idf.row k c = x at *
            clear h h3 hm hrs hn
            go_enter Tryd.func23, Tryd.ntmps23
            go_wp2_with (first | (go_at_call 14; refine (HW.out _).mono ?_; rintro r w2 ⟨rfl, hb2⟩) | (go_at_call 29; refine (HZ.out _).mono ?_; rintro r w3 ⟨rfl, rfl⟩) | (go_at_call 13; refine (HR.out _ (HK.out.under hb2)).mono ?_; rintro r w4 ⟨rfl, hb4⟩) | (go_at_call 24; refine (HC.out _).mono ?_; rintro r w5 ⟨rfl, hb5⟩))
            go_ret2
            exact ⟨by rw [HE.out]; rfl, (hb2.trans (hb4.mono hb2.size)).trans (hb5.mono (Nat.le_trans hb2.size hb4.size))⟩
          | false =>
            have HE := Lib.hid (Idf.id_narrow h h3 hm)
            rw [hm] at HC
            rw [show Idf.narrow (Idf.row k c) = ⟨(Sh.sum (Idf.row k c).data.toList).toArray⟩ from rfl] at HE
            generalize Idf.row k c = x at *
            generalize (⟨(Sh.sum x.data.toList).toArray⟩ : ByteArray) = D at *
            clear h h3 hm hrs hn
            go_enter Tryd.func23, Tryd.ntmps23
            go_wp2_with (first | (go_at_call 14; refine (HW.out _).mono ?_; rintro r w2 ⟨rfl, hb2⟩) | (go_at_call 29; refine (HZ.out _).mono ?_; rintro r w3 ⟨rfl, rfl⟩) | (go_at_call 13; refine (HR.out _ (HK.out.under hb2)).mono ?_; rintro r w4 ⟨rfl, hb4⟩) | (go_at_call 24; refine (HC.out _).mono ?_; rintro r w5 ⟨rfl, hb5⟩))
            go_ret2
            exact ⟨by rw [HE.out]; rfl, (hb2.trans (hb4.mono hb2.size)).trans (hb5.mono (Nat.le_trans hb2.size hb4.size))⟩
        · have HE := Lib.hid (Idf.id_wide h h3)
          rw [if_neg (by decide), if_pos rfl] at HZ
          have HS := Lib.hid (fun W hW => Ho.sum_one (Idf.row k c) W hW (by omega))
          rw [show Idf.wide (Idf.row k c) = ⟨(S2.sum (Idf.row k c).data.toList).toArray⟩ from rfl] at HE
          generalize Idf.row k c = x at *
          generalize (⟨(S2.sum x.data.toList).toArray⟩ : ByteArray) = D at *
          clear h h3 hrs hn
          go_enter Tryd.func23, Tryd.ntmps23
          go_wp2_with (first | (go_at_call 14; refine (HW.out _).mono ?_; rintro r w2 ⟨rfl, hb2⟩) | (go_at_call 29; refine (HZ.out _).mono ?_; rintro r w3 ⟨rfl, rfl⟩) | (go_at_call 13; refine (HR.out _ (HK.out.under hb2)).mono ?_; rintro r w4 ⟨rfl, hb4⟩) | (go_at_call 30; refine (HS.out w4 ((HK.out.under hb2).under hb4).ks).mono ?_; rintro r w5 ⟨rfl, hb5⟩))
          go_ret2
          exact ⟨by rw [HE.out]; rfl, (hb2.trans (hb4.mono hb2.size)).trans (hb5.mono (Nat.le_trans hb2.size hb4.size))⟩
    · have HE := Lib.hid (Idf.id_range (c := c) h h2)
      rw [if_neg (by omega), if_neg (by omega)] at HZ
      generalize Idf.row k c = x at *
      clear h h2 hn HR
      go_enter Tryd.func23, Tryd.ntmps23
      go_wp2_with (first | (go_at_call 14; refine (HW.out _).mono ?_; rintro r w2 ⟨rfl, hb2⟩) | (go_at_call 29; refine (HZ.out _).mono ?_; rintro r w3 ⟨rfl, rfl⟩))
      go_ret2
      exact ⟨by rw [HE.out]; rfl, hb2⟩
  · have HE := Lib.hid (Idf.id_kind (sp := sp) (c := c) h)
    rw [Idf.word_no h] at HW
    go_enter Tryd.func23, Tryd.ntmps23
    go_wp2_with (go_at_call 14; refine (HW.out _).mono ?_; rintro r w2 ⟨rfl, hb2⟩)
    go_ret2
    exact ⟨by rw [HE.out]; rfl, hb2⟩

set_option maxHeartbeats 2000000 in
set_option maxRecDepth 100000 in
theorem id_any (sp k : Int) (c : ByteArray) (w : World) (hK : Kt w) (hc : c.size ≤ 90000) (hn : sp = 1 → c.size ≤ 9000) :
    Calls Tryd.prog 12 #[.int .i64 sp, .int .i64 k, .string c] w fun e w' => e = .returned (.tuple #[.string (Idf.idF sp k c).1, .int .i64 (Idf.idF sp k c).2]) ∧ Below w.heap.size w w' := by
  have HS := Lib.hid (scanned_any sp k c w hK hc hn)
  generalize (Idf.idF sp k c).1 = x at *
  generalize (Idf.idF sp k c).2 = e0 at *
  clear hK hn
  go_enter Tryd.func12, Tryd.ntmps12
  go_wp2_with (go_at_call 23; refine HS.out.mono ?_; rintro r w2 ⟨rfl, hb2⟩)
  go_ret2
  exact ⟨rfl, hb2⟩
theorem id_err (sp k : Int) (c : ByteArray) (h : (Idf.idF sp k c).2 ≠ 0) : (Idf.idF sp k c).1 = ⟨#[]⟩ := by
  unfold Idf.idF at h ⊢
  split
  · rfl
  · split
    · rfl
    · split
      · rfl
      · split
        · rename_i h1 h2 h3 h4; exact absurd (by rw [if_neg h1, if_neg h2, if_neg h3, if_pos h4]) h
        · split
          · rfl
          · rename_i h1 h2 h3 h4 h5; exact absurd (by rw [if_neg h1, if_neg h2, if_neg h3, if_neg h4, if_neg h5]) h

set_option maxHeartbeats 4000000 in
set_option maxRecDepth 100000 in
theorem ofW_any (k : Int) (c : ByteArray) (w : World) (hK : Kt w) (hc : c.size ≤ 1000) :
    Calls Tryd.prog 16 #[.int .i64 k, .string c] w fun e w' => e = .returned (.tuple #[.agg #[.string (Idf.idF 2 k c).1], .int .i64 (Idf.idF 2 k c).2]) ∧ Below w.heap.size w w' := by
  have HK := Lib.hid hK
  have HN := Lib.hid (fun W => numberW_any W)
  have HI := Lib.hid (fun W hW => id_any 2 k c W hW (by omega) (fun _ => by omega))
  have HP := Lib.hid (And.intro (nm_new w 26 ⟨#[]⟩) ((Below.refl _ w).alloc (Nat.le_refl _) (.cells #[.string ⟨#[]⟩] 26)))
  have her := id_err 2 k c
  generalize (Idf.idF 2 k c).1 = x at *
  generalize (Idf.idF 2 k c).2 = e0 at *
  clear hK
  by_cases h : e0 = 0
  · subst h
    clear her
    go_enter Tryd.func16, Tryd.ntmps16
    go_wp2_with (first
      | (go_at_call 21; refine (HN.out _).mono ?_; rintro r w5 ⟨rfl, hb5⟩; have HP := Lib.hid (And.intro (HP.out.1.step hb5) (HP.out.2.trans (hb5.mono HP.out.2.size))); have c1 := HP.out.1.cell; have f1 := HP.out.1.free; clear hb5)
      | (go_at_call 12; refine (HI.out _ (HK.out.under HP.out.2)).mono ?_; rintro r w5 ⟨rfl, hb5⟩; have HP := Lib.hid (And.intro (HP.out.1.step hb5) (HP.out.2.trans (hb5.mono HP.out.2.size))); have c1 := HP.out.1.cell; have f1 := HP.out.1.free; clear hb5))
    exact bodyPost_ret (nm_cells Tryd.results16 _ _ w.heap.size x _ rfl (HP.out.1.put x) Tryd.underlying26 rfl nmW_size) rfl ⟨rfl, HP.out.2.setCell (p := ⟨w.heap.size, 0, none⟩) (Nat.le_refl _) _⟩
  · obtain rfl := her h
    have h1 : (e0 == 0) = false := beq_eq_false_iff_ne.2 h
    have h2 : (e0 != 0) = true := by simp [h]
    clear her h
    go_enter Tryd.func16, Tryd.ntmps16
    go_wp2_with (first
      | (go_at_call 21; refine (HN.out _).mono ?_; rintro r w5 ⟨rfl, hb5⟩; have HP := Lib.hid (And.intro (HP.out.1.step hb5) (HP.out.2.trans (hb5.mono HP.out.2.size))); have c1 := HP.out.1.cell; have f1 := HP.out.1.free; clear hb5)
      | (go_at_call 12; refine (HI.out _ (HK.out.under HP.out.2)).mono ?_; rintro r w5 ⟨rfl, hb5⟩; have HP := Lib.hid (And.intro (HP.out.1.step hb5) (HP.out.2.trans (hb5.mono HP.out.2.size))); have c1 := HP.out.1.cell; have f1 := HP.out.1.free; clear hb5))
    exact bodyPost_ret (nm_cells Tryd.results16 _ _ w.heap.size ⟨#[]⟩ _ rfl (HP.out.1.put ⟨#[]⟩) Tryd.underlying26 rfl nmW_size) rfl ⟨rfl, HP.out.2.setCell (p := ⟨w.heap.size, 0, none⟩) (Nat.le_refl _) _⟩

set_option maxHeartbeats 4000000 in
set_option maxRecDepth 100000 in
theorem ofN_any (k : Int) (c : ByteArray) (w : World) (hK : Kt w) (hc : c.size ≤ 1000) :
    Calls Tryd.prog 15 #[.int .i64 k, .string c] w fun e w' => e = .returned (.tuple #[.agg #[.string (Idf.idF 1 k c).1], .int .i64 (Idf.idF 1 k c).2]) ∧ Below w.heap.size w w' := by
  have HK := Lib.hid hK
  have HN := Lib.hid (fun W => numberN_any W)
  have HI := Lib.hid (fun W hW => id_any 1 k c W hW (by omega) (fun _ => by omega))
  have HP := Lib.hid (And.intro (nm_new w 35 ⟨#[]⟩) ((Below.refl _ w).alloc (Nat.le_refl _) (.cells #[.string ⟨#[]⟩] 35)))
  have her := id_err 1 k c
  generalize (Idf.idF 1 k c).1 = x at *
  generalize (Idf.idF 1 k c).2 = e0 at *
  clear hK
  by_cases h : e0 = 0
  · subst h
    clear her
    go_enter Tryd.func15, Tryd.ntmps15
    go_wp2_with (first
      | (go_at_call 22; refine (HN.out _).mono ?_; rintro r w5 ⟨rfl, hb5⟩; have HP := Lib.hid (And.intro (HP.out.1.step hb5) (HP.out.2.trans (hb5.mono HP.out.2.size))); have c1 := HP.out.1.cell; have f1 := HP.out.1.free; clear hb5)
      | (go_at_call 12; refine (HI.out _ (HK.out.under HP.out.2)).mono ?_; rintro r w5 ⟨rfl, hb5⟩; have HP := Lib.hid (And.intro (HP.out.1.step hb5) (HP.out.2.trans (hb5.mono HP.out.2.size))); have c1 := HP.out.1.cell; have f1 := HP.out.1.free; clear hb5))
    exact bodyPost_ret (nm_cells Tryd.results15 _ _ w.heap.size x _ rfl (HP.out.1.put x) Tryd.underlying35 rfl nmN_size) rfl ⟨rfl, HP.out.2.setCell (p := ⟨w.heap.size, 0, none⟩) (Nat.le_refl _) _⟩
  · obtain rfl := her h
    have h1 : (e0 == 0) = false := beq_eq_false_iff_ne.2 h
    have h2 : (e0 != 0) = true := by simp [h]
    clear her h
    go_enter Tryd.func15, Tryd.ntmps15
    go_wp2_with (first
      | (go_at_call 22; refine (HN.out _).mono ?_; rintro r w5 ⟨rfl, hb5⟩; have HP := Lib.hid (And.intro (HP.out.1.step hb5) (HP.out.2.trans (hb5.mono HP.out.2.size))); have c1 := HP.out.1.cell; have f1 := HP.out.1.free; clear hb5)
      | (go_at_call 12; refine (HI.out _ (HK.out.under HP.out.2)).mono ?_; rintro r w5 ⟨rfl, hb5⟩; have HP := Lib.hid (And.intro (HP.out.1.step hb5) (HP.out.2.trans (hb5.mono HP.out.2.size))); have c1 := HP.out.1.cell; have f1 := HP.out.1.free; clear hb5))
    exact bodyPost_ret (nm_cells Tryd.results15 _ _ w.heap.size ⟨#[]⟩ _ rfl (HP.out.1.put ⟨#[]⟩) Tryd.underlying35 rfl nmN_size) rfl ⟨rfl, HP.out.2.setCell (p := ⟨w.heap.size, 0, none⟩) (Nat.le_refl _) _⟩

theorem faces : Faces where
  word := word_any
  kind s w _ := kind_any s w
  row := row_any
  idn sp k c w h hc := id_any sp k c w h (by omega) (fun _ => by omega)
  idw k c w h hc := id_any 2 k c w h hc (fun h2 => by omega)
  ofW := ofW_any
  ofN := ofN_any
  makeW := makeW_any
  makeN := makeN_any
  bytesW := bytesW_any
  bytesN := bytesN_any
  digitsW := digitsW_any
  digitsN := digitsN_any
  zeroW := zeroW_any
  numW := numW_any
  numN := numN_any
end Go.Proofs.YtmbbigmnliiadaaDoor.Hi
