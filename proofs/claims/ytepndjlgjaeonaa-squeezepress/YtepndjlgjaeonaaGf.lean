/-
  Any token; the program's follow and Open (layer 8).
-/
import Derived.Test.YtepndjlgjaeonaaGe
namespace Go.Proofs.Ytepndjlgjaeonaa.Hg
open Go.RowKit Hw
set_option linter.unusedVariables false

set_option maxHeartbeats 1000000 in
set_option maxRecDepth 100000 in
theorem token_any (w : World) (b M : Nat) (t : List UInt8) (h : TxAt w b M t) (s : ByteArray) (h0 : 0 < s.size) (hM : M < 9223372036854775808) (ht : t.length ≤ 20000000) (hs : s.size ≤ 20000000) :
    Calls Try.prog 13 #[.pointer (some ⟨b, 0, none⟩), .string s] w fun r w' => r = .returned (tokR M t (bl s)) ∧ (Sq.code M t (bl s) = 0 → TxAt w' b M (Sq.tells t (bl s))) ∧ Below b w w' := by
  have h0i : (0 : Int) < s.size := by omega
  obtain ⟨n, hn⟩ : ∃ n, s[0].toNat = n := ⟨_, rfl⟩
  have hni : (s[0].toNat : Int) = n := by rw [hn]
  have HR := Lib.hid (show tokR M t (bl s) = .tuple #[.int .i64 (tokN M t (bl s)), .int .i64 (Sq.code M t (bl s))] from rfl)
  by_cases hc : n < 128
  · have HT := Lib.hid (take_any w b M t h s h0 (by rw [hn]; exact hc) hM ht hs)
    have hci : (n : Int) < 128 := by omega
    clear h hc hn
    go_enter Try.func13, Try.ntmps13
    go_wp2_with (go_at_call 18; rw [HR.out] at HT; refine HT.out.mono ?_; rintro e w2 ⟨rfl, hp⟩; have HP := Lib.hid hp; clear hp HT)
    go_ret2
    exact ⟨by rw [HR.out]; rfl, HP.out⟩
  · have HT := Lib.hid (again_any w b M t h s h0 (by rw [hn]; omega) hM ht hs)
    have hci : ¬ (n : Int) < 128 := by omega
    clear h hc hn
    go_enter Try.func13, Try.ntmps13
    go_wp2_with (go_at_call 19; rw [HR.out] at HT; refine HT.out.mono ?_; rintro e w2 ⟨rfl, hp⟩; have HP := Lib.hid hp; clear hp HT)
    go_ret2
    exact ⟨by rw [HR.out]; rfl, HP.out⟩

theorem ext0 (s : ByteArray) : s.extract 0 s.size = s := by rw [← str_bl (s.extract 0 s.size), bl_drop, List.drop_zero, str_bl]
theorem ext_ext (s : ByteArray) (k n : Nat) : (s.extract k s.size).extract n (s.extract k s.size).size = s.extract (k + n) s.size := by
  rw [← str_bl (ByteArray.extract _ _ _), bl_drop, bl_drop, List.drop_drop, ← bl_drop, str_bl]
theorem code_size {M : Nat} {t s : List UInt8} (h : Sq.code M t s = 0) : Sq.size s ≤ s.length := by
  unfold Sq.code at h
  unfold Sq.size
  by_cases hc : (s.getD 0 0).toNat < 128
  · simp only [if_pos hc] at h ⊢
    by_cases h1 : s.length < (s.getD 0 0).toNat + 2
    · rw [if_pos h1] at h; exact absurd h (by decide)
    · omega
  · simp only [if_neg hc] at h ⊢
    by_cases h1 : s.length < 3
    · rw [if_pos h1] at h; exact absurd h (by decide)
    · omega
theorem tells_small {M : Nat} {t s : List UInt8} (h : Sq.code M t s = 0) : (Sq.tells t s).length ≤ t.length + 131 * Sq.size s := by
  unfold Sq.tells Sq.size
  have hx : (s.getD 0 0).toNat < 256 := (s.getD 0 0).toNat_lt
  split
  · rw [List.length_append, List.length_take]; omega
  · rw [Sq.agn_length]; omega
theorem tok_ok {M : Nat} {t s : List UInt8} (h : Sq.code M t s = 0) : tokR M t s = .tuple #[.int .i64 (Sq.size s : Nat), .int .i64 0] := by unfold tokR tokN; rw [h, if_pos rfl]
theorem tok_no {M : Nat} {t s : List UInt8} (h : Sq.code M t s ≠ 0) : tokR M t s = .tuple #[.int .i64 0, .int .i64 (Sq.code M t s)] := by unfold tokR tokN; rw [if_neg h]

set_option maxHeartbeats 2000000 in
set_option maxRecDepth 100000 in
theorem follow_any (s : ByteArray) (M : Nat) (w : World) (hM : M < 9223372036854775808) (hs : s.size ≤ 100000) :
    Calls Try.prog 11 #[.string s, .int .i64 M] w fun e w' => e = .returned (ans (Sq.goF M [] (bl s))) ∧ Below w.heap.size w w' := by
  have HS0 := Lib.hid (show TxAt (w.alloc (.cells #[.slice none 0 0, .int .i64 M] 41)) w.heap.size M [] ∧ Below w.heap.size w (w.alloc (.cells #[.slice none 0 0, .int .i64 M] 41)) from
    ⟨⟨none, 0, heap_alloc_new w _, own_nil _ _⟩, (Below.refl _ w).alloc (Nat.le_refl _) _⟩)
  go_enter Try.func11, Try.ntmps11
  go_wp2
  go_loopg [0] s.size (fun gk v wx => ∃ (k : Nat) (t : List UInt8), gk = s.size - k ∧ k ≤ s.size ∧ v = .string (s.extract k s.size) ∧ TxAt wx w.heap.size M t ∧ Below w.heap.size w wx ∧ t.length ≤ 131 * k ∧ Sq.goF M [] (bl s) = Sq.goF M t ((bl s).drop k))
  case atStart => exact ⟨0, [], rfl, Nat.zero_le _, by rw [ext0], HS0.out.1, HS0.out.2, by simp, rfl⟩
  case round =>
    obtain ⟨k, t, rfl, hk, rfl, htx, hbl, hsm, hgo⟩ := hrel
    have hsz : (s.extract k s.size).size = s.size - k := by rw [ByteArray.size_extract]; omega
    have hbx : bl (s.extract k s.size) = (bl s).drop k := bl_drop s k
    have hext := ext_ext s k
    rw [← hbx] at hgo
    by_cases hlt : k < s.size
    · obtain ⟨X, hX⟩ : ∃ X, s.extract k s.size = X := ⟨_, rfl⟩
      rw [hX] at hsz hbx hgo hext
      rw [hX]
      have h0 : 0 < X.size := by omega
      have h0i : (0 : Int) < X.size := by omega
      have hne : bl X ≠ [] := by intro e; have := bl_length X; rw [e] at this; simp at this; omega
      have hTK := token_any wr w.heap.size M t htx X h0 hM (by omega) (by omega)
      by_cases hc : Sq.code M t (bl X) = 0
      · rw [tok_ok hc] at hTK
        have hgo2 := hgo.trans (Sq.go_good hne hc)
        have hcs := code_size hc
        have hts := tells_small hc
        rw [bl_length] at hcs
        have hsp := Sq.size_pos (bl X)
        rw [hbx, List.drop_drop, ← hbx] at hgo2
        generalize Sq.size (bl X) = n at *
        have hsl := slice_from X n (n : Int) rfl hcs
        have HE := Lib.hid (hext n)
        generalize X.extract n X.size = Y at *
        have HT := Lib.hid hTK
        have HG := Lib.hid hgo2
        have HTS := Lib.hid (And.intro hsm (And.intro hts (And.intro hsz hcs)))
        have HC := Lib.hid hc
        have HB := Lib.hid hbl
        clear hTK hgo2 hgo hext hne hc hbx htx hsz hts hsm hcs hX hbl
        go_wp2_with (go_at_call 13; refine HT.out.mono ?_; rintro e w2 ⟨rfl, hp1, hp2⟩; have HP := Lib.hid (And.intro (hp1 HC.out) (HB.out.trans hp2)); clear hp1 hp2 HT)
        go_roundg (s.size - (k + n))
        case rel => exact ⟨k + n, Sq.tells t (bl X), rfl, (by have := HTS.out; omega), by rw [HE.out], HP.out.1, HP.out.2, (by have := HTS.out; omega), HG.out⟩
        case measure => have := HTS.out; omega
      · rw [tok_no hc] at hTK
        have HG := Lib.hid (hgo.trans (Sq.go_bad hne hc))
        have HT := Lib.hid hTK
        have hcc : (Sq.code M t (bl X) == 0) = false := beq_eq_false_iff_ne.2 hc
        have hcd : decide (Sq.code M t (bl X) = 0) = false := decide_eq_false hc
        have HB := Lib.hid hbl
        generalize Sq.code M t (bl X) = C at *
        clear hTK hgo hext hne hbx htx hX hbl
        go_wp2_with (go_at_call 13; refine HT.out.mono ?_; rintro e w2 ⟨rfl, hp1, hp2⟩; have HP := Lib.hid (HB.out.trans hp2); clear hp1 hp2 HT)
        go_ret2
        exact ⟨ans_no HG.out, HP.out⟩
    · obtain rfl : k = s.size := by omega
      have hz : (s.extract s.size s.size).size = 0 := by omega
      obtain ⟨A, cp, hb, ho⟩ := htx
      have c0 := cell_of_cells hb 0
      have hst := ho.str
      have HC := Lib.hid (hgo.trans (show Sq.goF M t (bl (s.extract s.size s.size)) = (t, 0) by rw [hbx, List.drop_of_length_le (by rw [bl_length]; exact Nat.le_refl _), Sq.go_nil]))
      have HB := Lib.hid hbl
      clear hgo hbx hext hb ho hbl hsz
      generalize s.extract s.size s.size = X at *
      have hzi : ¬ (0 : Int) < X.size := by omega
      go_wp2
      go_ret2
      exact ⟨ans_mk HC.out, HB.out⟩

set_option maxHeartbeats 1000000 in
set_option maxRecDepth 100000 in
theorem open_any (s : ByteArray) (m : Int) (w : World) (hm : m < 9223372036854775808) (hs : s.size ≤ 100000) :
    Calls Try.prog 7 #[.string s, .int .i64 m] w fun e w' => e = .returned (ans (Sq.openF (bl s) m.toNat)) ∧ Below w.heap.size w w' := by
  obtain ⟨M, hM⟩ : ∃ M, m.toNat = M := ⟨_, rfl⟩
  have hM9 : M < 9223372036854775808 := by omega
  rw [hM]
  have HM := Lib.hid hM
  clear hM
  by_cases h0 : s.size = 0
  · have HE := Lib.hid (openF_short s M h0)
    have hse : s = ⟨#[]⟩ := by rw [← str_bl s, List.eq_nil_of_length_eq_zero ((bl_length s).trans h0)]; rfl
    subst hse
    go_enter Try.func7, Try.ntmps7
    go_wp2
    go_ret2
    exact ⟨ans_no HE.out, Below.refl _ _⟩
  · have hpos : 0 < s.size := by omega
    have hse : s.toList.isEmpty = false := by rw [toList_bl, List.isEmpty_eq_false_iff]; intro e; have := bl_length s; rw [e] at this; simp at this; omega
    have hpi : (0 : Int) < s.size := by omega
    obtain ⟨n, hn⟩ : ∃ n, s[0].toNat = n := ⟨_, rfl⟩
    have hni : (s[0].toNat : Int) = n := by rw [hn]
    have hsl := slice_from s 1 1 rfl hpos
    have HX := Lib.hid (bl_drop s 1)
    have HXS := Lib.hid (show (s.extract 1 s.size).size = s.size - 1 by rw [ByteArray.size_extract]; omega)
    clear h0
    generalize s.extract 1 s.size = X at *
    go_enter Try.func7, Try.ntmps7
    go_upto_region 3 with fail
    go_cut [6, 1] (fun s6 s1 wx => s6 = .string X ∧ s1 = .int .i64 M ∧ w = wx)
    case first =>
      by_cases h : m < 0
      · go_wp2
        go_meet
        exact ⟨rfl, by have := HM.out; rw [show M = 0 by omega]; rfl, rfl⟩
      · go_wp2
        go_meet
        exact ⟨rfl, by have := HM.out; rw [show m = (M : Int) by omega], rfl⟩
    case rest =>
      obtain ⟨rfl, rfl, rfl⟩ := hcut
      clear HM
      by_cases hn0 : n = 0
      · have HE := Lib.hid (openF_nought s M hpos (by omega))
        rw [← HXS.out] at HE
        have hn1 : ((n : Int) == 0) = true := by simp [hn0]
        clear hn0 hn
        by_cases hL : M < X.size
        · rw [if_pos hL] at HE
          have hL1 : (M : Int) < X.size := by omega
          clear hL
          go_wp2
          go_ret2
          exact ⟨ans_no HE.out, Below.refl _ _⟩
        · rw [if_neg hL] at HE
          have hL1 : ¬ (M : Int) < X.size := by omega
          clear hL
          go_wp2
          go_ret2
          exact ⟨by rw [show X = str ((bl s).drop 1) by rw [← HX.out, str_bl]]; exact ans_mk HE.out, Below.refl _ _⟩
      · have hn1 : ((n : Int) == 0) = false := beq_eq_false_iff_ne.2 (by omega)
        by_cases hn2 : n = 1
        · have HE := Lib.hid (openF_one s M hpos (by omega))
          rw [← HX.out] at HE
          have hn3 : ((n : Int) == 1) = true := by simp [hn2]
          have HF := Lib.hid (follow_any X M w hM9 (by have := HXS.out; omega))
          have HA := Lib.hid (show ans (Sq.goF M [] (bl X)) = .tuple #[.string (str (Sq.goF M [] (bl X)).1), .int .i64 (Sq.goF M [] (bl X)).2] from rfl)
          clear hn0 hn2 hn
          go_wp2_with (go_at_call 11; rw [HA.out] at HF; refine HF.out.mono ?_; rintro e w2 ⟨rfl, hb2⟩)
          go_ret2
          exact ⟨by rw [HE.out, HA.out]; rfl, hb2⟩
        · have hn3 : ((n : Int) == 1) = false := beq_eq_false_iff_ne.2 (by omega)
          have HE := Lib.hid (openF_form s M hpos (by omega))
          clear hn0 hn2 hn
          go_wp2
          go_ret2
          exact ⟨ans_no HE.out, Below.refl _ _⟩
end Go.Proofs.Ytepndjlgjaeonaa.Hg
