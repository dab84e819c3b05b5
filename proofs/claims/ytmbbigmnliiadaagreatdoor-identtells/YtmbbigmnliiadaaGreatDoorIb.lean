/-
  Layer 10: the document's Id.
-/
import Derived.Test.YtmbbigmnliiadaaGreatDoorI1
import Derived.Test.YtmbbigmnliiadaaGreatDoorSk
import Derived.Test.YtmbbigmnliiadaaGreatDoorD4
namespace Go.Proofs.YtmbbigmnliiadaaGreatDoor.Hi
open Go.RowKit Hg Hs Hd
set_option linter.unusedVariables false

set_option maxHeartbeats 2000000 in
set_option maxRecDepth 100000 in
theorem rid_any (sp k : Int) (c : ByteArray) (w : World) (hc : c.size ≤ 90000) : Calls Tryz.prog 6 #[.int .i64 sp, .int .i64 k, .string c] w fun e w' => e = .returned (idV (Idf.idF sp k c)) ∧ Below w.heap.size w w' := by
  have HW := Lib.hid (fun w' => rword_any k w')
  by_cases h : 1 ≤ k ∧ k ≤ 4
  · have H := Lib.hid h
    have hws := Idf.word_some h
    have hse : (Idf.word k).toList.isEmpty = false := by rw [toList_bl, List.isEmpty_eq_false_iff]; intro e; have := bl_length (Idf.word k); rw [e] at this; simp at this; omega
    generalize Idf.word k = x at *
    clear hws h
    by_cases h2 : sp = 1 ∨ sp = 2
    · by_cases h3 : 65536 < c.size
      · have h3i : (65536 : Int) < c.size := by omega
        have HE := Lib.hid (Idf.id_limit H.out h2 h3)
        clear h3
        rcases h2 with rfl | rfl
        all_goals
          go_enter Tryz.func6, Tryz.ntmps6
          go_wp2_with (go_at_call 12; refine (HW.out _).mono ?_; rintro r w2 ⟨rfl, rfl⟩)
          go_ret2
          exact ⟨id_mk HE.out, Below.refl _ _⟩
      · have h3i : ¬ (65536 : Int) < c.size := by omega
        have HR := Lib.hid (fun w' => rrow_any k c w' (by omega))
        have hrs := row_size k c (by omega)
        have HS := Lib.hid (fun w' => Hs.rsum2_any (Idf.row k c) w' (by omega))
        have HC := Lib.hid (fun w' => Hd.rscan_any (Idf.row k c) w' (by omega))
        rcases h2 with rfl | rfl
        · cases hm : Dv.scan (Idf.row k c).data.toList with
          | true =>
            have HE := Lib.hid (Idf.id_marked H.out h3 hm)
            rw [hm] at HC
            generalize Idf.row k c = R at *
            clear h3 hm hrs
            go_enter Tryz.func6, Tryz.ntmps6
            go_wp2_with (first | (go_at_call 12; refine (HW.out _).mono ?_; rintro r w2 ⟨rfl, rfl⟩) | (go_at_call 16; refine (HR.out _).mono ?_; rintro r w3 ⟨rfl, hb3⟩) | (go_at_call 27; refine (HC.out _).mono ?_; rintro r w4 ⟨rfl, hb4⟩))
            go_ret2
            exact ⟨id_mk HE.out, hb3.trans (hb4.mono hb3.size)⟩
          | false =>
            have HE := Lib.hid (Idf.id_narrow H.out h3 hm)
            rw [hm] at HC
            rw [show Idf.narrow (Idf.row k c) = ⟨(Sh.sum (Idf.row k c).data.toList).toArray⟩ from rfl] at HE
            generalize Idf.row k c = R at *
            generalize (⟨(Sh.sum R.data.toList).toArray⟩ : ByteArray) = D at *
            clear h3 hm hrs
            go_enter Tryz.func6, Tryz.ntmps6
            go_wp2_with (first | (go_at_call 12; refine (HW.out _).mono ?_; rintro r w2 ⟨rfl, rfl⟩) | (go_at_call 16; refine (HR.out _).mono ?_; rintro r w3 ⟨rfl, hb3⟩) | (go_at_call 27; refine (HC.out _).mono ?_; rintro r w4 ⟨rfl, hb4⟩))
            go_ret2
            exact ⟨id_mk HE.out, hb3.trans (hb4.mono hb3.size)⟩
        · have HE := Lib.hid (Idf.id_wide H.out h3)
          rw [show Idf.wide (Idf.row k c) = ⟨(S2.sum (Idf.row k c).data.toList).toArray⟩ from rfl] at HE
          generalize Idf.row k c = R at *
          generalize (⟨(S2.sum R.data.toList).toArray⟩ : ByteArray) = D at *
          clear h3 hrs
          go_enter Tryz.func6, Tryz.ntmps6
          go_wp2_with (first | (go_at_call 12; refine (HW.out _).mono ?_; rintro r w2 ⟨rfl, rfl⟩) | (go_at_call 16; refine (HR.out _).mono ?_; rintro r w3 ⟨rfl, hb3⟩) | (go_at_call 26; refine (HS.out _).mono ?_; rintro r w4 ⟨rfl, hb4⟩))
          go_ret2
          exact ⟨id_mk HE.out, hb3.trans (hb4.mono hb3.size)⟩
    · have HE := Lib.hid (Idf.id_range (c := c) H.out h2)
      have s1 : (sp == 1) = false := beq_eq_false_iff_ne.2 (by omega)
      have s2 : (sp == 2) = false := beq_eq_false_iff_ne.2 (by omega)
      have t1 : (sp != 1) = true := by simp; omega
      have t2 : (sp != 2) = true := by simp; omega
      clear h2
      go_enter Tryz.func6, Tryz.ntmps6
      go_wp2_with (go_at_call 12; refine (HW.out _).mono ?_; rintro r w2 ⟨rfl, rfl⟩)
      go_ret2
      exact ⟨id_mk HE.out, Below.refl _ _⟩
  · have HE := Lib.hid (Idf.id_kind (sp := sp) (c := c) h)
    rw [Idf.word_no h] at HW
    go_enter Tryz.func6, Tryz.ntmps6
    go_wp2_with (go_at_call 12; refine (HW.out _).mono ?_; rintro r w2 ⟨rfl, rfl⟩)
    go_ret2
    exact ⟨id_mk HE.out, Below.refl _ _⟩
end Go.Proofs.YtmbbigmnliiadaaGreatDoor.Hi
