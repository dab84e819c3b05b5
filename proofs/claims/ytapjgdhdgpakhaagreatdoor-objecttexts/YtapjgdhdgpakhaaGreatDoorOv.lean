/-
  Layer 11, the program's side: short texts, modes, kinds, names of entries, tags and persons; the library's IndexRune, IndexAny, ContainsAny, ContainsRune at any text.
-/
import Derived.Test.YtapjgdhdgpakhaaGreatDoorOx
import Derived.Test.YtapjgdhdgpakhaaGreatDoorOf
import Derived.Laws.RangeString
import Derived.Laws.RangeAny
namespace Go.Proofs.YtapjgdhdgpakhaaGreatDoor.Hj
open Go.RowKit Ob
set_option linter.unusedVariables false

def shortB (s : ByteArray) : Bool := decide (0 < s.size) && decide (s.size ≤ 64)
set_option maxHeartbeats 2000000 in
set_option maxRecDepth 100000 in
theorem short_any (s : ByteArray) (w : World) : Calls Tryz.prog 35 #[.string s] w fun e w' => e = .returned (.bool (shortB s)) ∧ w = w' := by
  rw [shortB]
  by_cases h1 : 0 < s.size
  · have i1 : (0 : Int) < s.size := by omega
    rw [decide_eq_true h1]
    by_cases h2 : s.size ≤ 64
    · have i2 : (s.size : Int) ≤ 64 := by omega
      rw [decide_eq_true h2]
      clear h1 h2
      go_enter Tryz.func35, Tryz.ntmps35
      go_wp2
      go_ret
      exact ⟨rfl, rfl⟩
    · have i2 : ¬ (s.size : Int) ≤ 64 := by omega
      rw [decide_eq_false h2]
      clear h1 h2
      go_enter Tryz.func35, Tryz.ntmps35
      go_wp2
      go_ret
      exact ⟨rfl, rfl⟩
  · have i1 : ¬ (0 : Int) < s.size := by omega
    rw [decide_eq_false h1]
    clear h1
    go_enter Tryz.func35, Tryz.ntmps35
    go_wp2
    go_ret
    exact ⟨rfl, rfl⟩

set_option maxHeartbeats 2000000 in
set_option maxRecDepth 100000 in
theorem pmode_any (m : Int) (w : World) : Calls Tryz.prog 51 #[.int .i64 m] w fun e w' => e = .returned (.string (str (modeW m))) ∧ w = w' := by
  by_cases h : 1 ≤ m ∧ m ≤ 3
  · rcases (by omega : m = 1 ∨ m = 2 ∨ m = 3) with rfl | rfl | rfl
    all_goals
      go_enter Tryz.func51, Tryz.ntmps51
      go_wp2
      go_ret
      exact ⟨rfl, rfl⟩
  · have HN := Lib.hid (show str (modeW m) = ⟨#[]⟩ from by rw [modeW, if_neg (by omega), if_neg (by omega), if_neg (by omega)]; rfl)
    have h1 : (m == 1) = false := beq_eq_false_iff_ne.2 (by omega)
    have h2 : (m == 2) = false := beq_eq_false_iff_ne.2 (by omega)
    have h3 : (m == 3) = false := beq_eq_false_iff_ne.2 (by omega)
    clear h
    go_enter Tryz.func51, Tryz.ntmps51
    go_wp2
    go_ret
    exact ⟨by rw [HN.out]; rfl, rfl⟩

theorem mode_at {s : ByteArray} (k : Nat) (h1 : 1 ≤ k) (h4 : k < 4) (hj : ∀ j : Nat, 1 ≤ j → j < k → str (modeW j) ≠ s) (he : str (modeW k) = s) : modeOf (bl s) = k := by
  subst he
  rw [bl_str]
  rcases (by omega : k = 1 ∨ k = 2 ∨ k = 3) with rfl | rfl | rfl <;> decide
theorem mode_none {s : ByteArray} (hj : ∀ j : Nat, 1 ≤ j → j < 4 → str (modeW j) ≠ s) : modeOf (bl s) = 0 := by
  have key : ∀ j : Nat, 1 ≤ j → j < 4 → bl s ≠ modeW j := fun j h1 h2 e => hj j h1 h2 (by rw [← e, str_bl])
  rw [modeOf, if_neg (show bl s ≠ modeW 1 from key 1 (by omega) (by omega)), if_neg (show bl s ≠ modeW 2 from key 2 (by omega) (by omega)), if_neg (show bl s ≠ modeW 3 from key 3 (by omega) (by omega))]
set_option maxHeartbeats 2000000 in
set_option maxRecDepth 100000 in
theorem pmodeOf_any (s : ByteArray) (w : World) : Calls Tryz.prog 89 #[.string s] w fun e w' => e = .returned (.int .i64 (modeOf (bl s))) ∧ w = w' := by
  have HW := Lib.hid (fun k w' => pmode_any k w')
  go_enter Tryz.func89, Tryz.ntmps89
  go_wp2_with fail
  go_loopg [3] 3 (fun gk v wr => ∃ k : Nat, 1 ≤ k ∧ k ≤ 4 ∧ gk = 4 - k ∧ v = .int .i64 k ∧ (∀ j : Nat, 1 ≤ j → j < k → str (modeW j) ≠ s) ∧ w = wr)
  case atStart => exact ⟨1, by omega, by omega, rfl, rfl, fun j h1 h2 => by omega, rfl⟩
  case round =>
    obtain ⟨k, hk1, hk5, rfl, rfl, hj, rfl⟩ := hrel
    have HJ := Lib.hid hj
    clear hj
    by_cases h5 : k < 4
    · have hk4 : (k : Int) ≤ 3 := by omega
      by_cases he : str (modeW k) = s
      · have hq := str_beq he
        have HE := Lib.hid (mode_at k hk1 h5 HJ.out he)
        have HWk := Lib.hid (HW.out (k : Int))
        clear he HW
        generalize str (modeW k) = x at *
        go_wp2_with (go_at_call 51; refine (HWk.out _).mono ?_; rintro r w2 ⟨rfl, rfl⟩)
        go_ret
        exact ⟨by rw [HE.out]; rfl, rfl⟩
      · have hq := str_bne he
        have HE := Lib.hid (show ∀ j : Nat, 1 ≤ j → j < k + 1 → str (modeW j) ≠ s from fun j h1 h2 => by
          by_cases h : j = k
          · subst h; exact he
          · exact HJ.out j h1 (by omega))
        have HWk := Lib.hid (HW.out (k : Int))
        clear he HW
        generalize str (modeW k) = x at *
        go_wp2_with (go_at_call 51; refine (HWk.out _).mono ?_; rintro r w2 ⟨rfl, rfl⟩)
        go_roundg (4 - (k + 1))
        case rel => exact ⟨k + 1, by omega, by omega, rfl, by go_num, HE.out, rfl⟩
        case measure => omega
    · have h5i : ¬ (k : Int) ≤ 3 := by omega
      have HE := Lib.hid (mode_none (s := s) (fun j h1 h2 => HJ.out j h1 (by omega)))
      go_wp2
      go_ret
      exact ⟨by rw [HE.out]; rfl, rfl⟩

set_option maxHeartbeats 2000000 in
set_option maxRecDepth 100000 in
theorem pword_any (k : Int) (w : World) : Calls Tryz.prog 23 #[.int .i64 k] w fun e w' => e = .returned (.string (Idf.word k)) ∧ w = w' := by
  by_cases h : 1 ≤ k ∧ k ≤ 4
  · rcases Idf.kind_cases h with rfl | rfl | rfl | rfl
    all_goals
      go_enter Tryz.func23, Tryz.ntmps23
      go_wp2
      go_ret
      exact ⟨rfl, rfl⟩
  · have HN := Lib.hid (Idf.word_no h)
    have h1 : (k == 1) = false := beq_eq_false_iff_ne.2 (by omega)
    have h2 : (k == 2) = false := beq_eq_false_iff_ne.2 (by omega)
    have h3 : (k == 3) = false := beq_eq_false_iff_ne.2 (by omega)
    have h4 : (k == 4) = false := beq_eq_false_iff_ne.2 (by omega)
    clear h
    go_enter Tryz.func23, Tryz.ntmps23
    go_wp2
    go_ret
    exact ⟨by rw [HN.out]; rfl, rfl⟩

set_option maxHeartbeats 2000000 in
set_option maxRecDepth 100000 in
theorem pkind_any (s : ByteArray) (w : World) : Calls Tryz.prog 68 #[.string s] w fun e w' => e = .returned (.int .i64 (Idf.kindF s)) ∧ w = w' := by
  have HW := Lib.hid (fun k w' => pword_any k w')
  go_enter Tryz.func68, Tryz.ntmps68
  go_wp2_with fail
  go_loopg [3] 4 (fun gk v wr => ∃ k : Nat, 1 ≤ k ∧ k ≤ 5 ∧ gk = 5 - k ∧ v = .int .i64 k ∧ (∀ j : Nat, 1 ≤ j → j < k → Idf.word j ≠ s) ∧ w = wr)
  case atStart => exact ⟨1, by omega, by omega, rfl, rfl, fun j h1 h2 => by omega, rfl⟩
  case round =>
    obtain ⟨k, hk1, hk5, rfl, rfl, hj, rfl⟩ := hrel
    have HJ := Lib.hid hj
    clear hj
    by_cases h5 : k < 5
    · have h5i : (k : Int) < 5 := by omega
      have hk4 : (k : Int) ≤ 4 := by omega
      by_cases he : Idf.word k = s
      · have hq := str_beq he
        have HE := Lib.hid (Idf.kind_at k hk1 h5 HJ.out he)
        have HWk := Lib.hid (HW.out (k : Int))
        clear he HW
        generalize Idf.word k = x at *
        go_wp2_with (go_at_call 23; refine (HWk.out _).mono ?_; rintro r w2 ⟨rfl, rfl⟩)
        go_ret
        exact ⟨by rw [HE.out]; rfl, rfl⟩
      · have hq := str_bne he
        have HE := Lib.hid (show ∀ j : Nat, 1 ≤ j → j < k + 1 → Idf.word j ≠ s from fun j h1 h2 => by
          by_cases h : j = k
          · subst h; exact he
          · exact HJ.out j h1 (by omega))
        have HWk := Lib.hid (HW.out (k : Int))
        clear he HW
        generalize Idf.word k = x at *
        go_wp2_with (go_at_call 23; refine (HWk.out _).mono ?_; rintro r w2 ⟨rfl, rfl⟩)
        go_roundg (5 - (k + 1))
        case rel => exact ⟨k + 1, by omega, by omega, rfl, by go_num, HE.out, rfl⟩
        case measure => omega
    · have h5i : ¬ (k : Int) ≤ 4 := by omega
      have HE := Lib.hid (Idf.kind_none (s := s) (fun j h1 h2 => HJ.out j h1 (by omega)))
      go_wp2
      go_ret
      exact ⟨by rw [HE.out]; rfl, rfl⟩
end Go.Proofs.YtapjgdhdgpakhaaGreatDoor.Hj
