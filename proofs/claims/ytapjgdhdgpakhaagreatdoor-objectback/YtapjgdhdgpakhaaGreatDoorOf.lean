/-
  Layer 11, the document's side: bytes in texts, names of persons, entries and tags, modes.
-/
import Derived.Test.YtapjgdhdgpakhaaGreatDoorOd
namespace Go.Proofs.YtapjgdhdgpakhaaGreatDoor.Hj
open Go.RowKit Ob
set_option linter.unusedVariables false

theorem has_yes {s : ByteArray} {c : UInt8} {k : Nat} (hk : k < s.size) (h : s[k] = c) : (bl s).contains c = true := by
  rw [List.contains_eq_mem, decide_eq_true_eq, ← h, ← bl_getD s k hk, List.getD_eq_getElem?_getD, List.getElem?_eq_getElem (by rw [bl_length]; exact hk)]
  exact List.getElem_mem _
theorem has_no {s : ByteArray} {c : UInt8} (h : ∀ j, j < s.size → (bl s).getD j 0 ≠ c) : (bl s).contains c = false := by
  rw [List.contains_eq_mem, decide_eq_false_iff_not]
  intro hm
  obtain ⟨j, hj, he⟩ := List.getElem_of_mem hm
  refine h j (by rwa [bl_length] at hj) ?_
  rw [List.getD_eq_getElem?_getD, List.getElem?_eq_getElem hj]
  exact he
/-- is a byte in a text -/
def hasB (l : List UInt8) (c : UInt8) : Bool := l.contains c
theorem byte_eq {a b : UInt8} (h : a = b) : ((a.toNat : Int) == (b.toNat : Int)) = true := by rw [h]; simp
theorem byte_ne {a b : UInt8} (h : ¬ a = b) : ((a.toNat : Int) == (b.toNat : Int)) = false := beq_eq_false_iff_ne.2 fun e => h (UInt8.toNat_inj.1 (by omega))
theorem ret_bool {a b : Bool} (h : a = b) : Ending.returned (.bool a) = .returned (.bool b) := by rw [h]

set_option maxHeartbeats 2000000 in
set_option maxRecDepth 100000 in
theorem has_any (s : ByteArray) (c : UInt8) (w : World) (hs : s.size ≤ 1000000) : Calls Tryz.prog 40 #[.string s, .int .u8 c.toNat] w fun e w' => e = .returned (.bool (hasB (bl s) c)) ∧ w = w' := by
  go_enter Tryz.func40, Tryz.ntmps40
  go_wp2_with fail
  go_loopg [5] s.size (fun g i wr => ∃ k : Nat, k ≤ s.size ∧ g = s.size - k ∧ i = .int .i64 k ∧ w = wr ∧ ∀ j, j < k → (bl s).getD j 0 ≠ c)
  case atStart => exact ⟨0, Nat.zero_le _, rfl, rfl, rfl, fun j hj => absurd hj (Nat.not_lt_zero _)⟩
  case round =>
    obtain ⟨k, hk, rfl, rfl, rfl, hall⟩ := hrel
    have HA := Lib.hid hall
    clear hall
    by_cases hlt : k < s.size
    · have hki : (k : Int) < s.size := by omega
      have E0 := Lib.hid (bl_getD s k hlt)
      by_cases he : s[k] = c
      · have HH := Lib.hid (has_yes hlt he)
        have hq := byte_eq he
        clear he
        go_wp2
        go_ret
        exact ⟨ret_bool HH.out.symm, rfl⟩
      · have HH := Lib.hid (show ∀ j, j < k + 1 → (bl s).getD j 0 ≠ c from fun j hj => by
          by_cases h : j = k
          · subst h; rw [E0.out]; exact he
          · exact HA.out j (by omega))
        have hq := byte_ne he
        clear he
        go_wp2
        go_roundg (s.size - (k + 1))
        case rel => exact ⟨k + 1, by omega, rfl, by go_num, rfl, HH.out⟩
        case measure => omega
    · have hki : ¬ (k : Int) < s.size := by omega
      have HH := Lib.hid (has_no (s := s) (c := c) fun j hj => HA.out j (by omega))
      go_wp2
      go_ret
      exact ⟨ret_bool HH.out.symm, rfl⟩

set_option maxHeartbeats 2000000 in
set_option maxRecDepth 100000 in
theorem person_any (s : ByteArray) (w : World) (hs : s.size ≤ 1000000) : Calls Tryz.prog 54 #[.string s] w fun e w' => e = .returned (.bool (person (bl s))) ∧ w = w' := by
  have H0 := Lib.hid (fun W => show Calls Tryz.prog 40 #[.string s, .int .u8 0] W fun e w' => e = .returned (.bool (hasB (bl s) 0)) ∧ W = w' from has_any s 0 W hs)
  have H1 := Lib.hid (fun W => show Calls Tryz.prog 40 #[.string s, .int .u8 10] W fun e w' => e = .returned (.bool (hasB (bl s) 10)) ∧ W = w' from has_any s 10 W hs)
  have HP : person (bl s) = (decide (1 ≤ s.size) && decide (s.size ≤ 64) && !hasB (bl s) 0 && !hasB (bl s) 10) := by rw [person, bl_length]; rfl
  rw [HP]
  clear HP
  generalize hasB (bl s) 0 = b0 at *
  generalize hasB (bl s) 10 = b1 at *
  by_cases h1 : 1 ≤ s.size
  · have i1 : (1 : Int) ≤ s.size := by omega
    by_cases h2 : s.size ≤ 64
    · have i2 : (s.size : Int) ≤ 64 := by omega
      rw [decide_eq_true h1, decide_eq_true h2]
      clear h1 h2
      cases b0 <;> cases b1
      all_goals
        go_enter Tryz.func54, Tryz.ntmps54
        go_wp2_with (go_at_call 40; first | (with_reducible refine (H0.out _).mono ?_; rintro r w2 ⟨rfl, rfl⟩) | (with_reducible refine (H1.out _).mono ?_; rintro r w3 ⟨rfl, rfl⟩))
        go_ret
        exact ⟨rfl, rfl⟩
    · have i2 : ¬ (s.size : Int) ≤ 64 := by omega
      rw [decide_eq_true h1, decide_eq_false h2]
      clear h1 h2
      go_enter Tryz.func54, Tryz.ntmps54
      go_wp2_with fail
      go_ret
      exact ⟨rfl, rfl⟩
  · have i1 : ¬ (1 : Int) ≤ s.size := by omega
    rw [decide_eq_false h1]
    clear h1
    go_enter Tryz.func54, Tryz.ntmps54
    go_wp2_with fail
    go_ret
    exact ⟨rfl, rfl⟩

theorem bl_is {s : ByteArray} {l : List UInt8} : decide (bl s ≠ l) = !(s.toList == l) := by
  rw [toList_bl, Bool.eq_iff_iff]
  simp
set_option maxHeartbeats 2000000 in
set_option maxRecDepth 100000 in
theorem entryName_any (s : ByteArray) (w : World) (hs : s.size ≤ 1000000) : Calls Tryz.prog 21 #[.string s] w fun e w' => e = .returned (.bool (entryName (bl s))) ∧ w = w' := by
  have H0 := Lib.hid (fun W => show Calls Tryz.prog 40 #[.string s, .int .u8 0] W fun e w' => e = .returned (.bool (hasB (bl s) 0)) ∧ W = w' from has_any s 0 W hs)
  have H1 := Lib.hid (fun W => show Calls Tryz.prog 40 #[.string s, .int .u8 47] W fun e w' => e = .returned (.bool (hasB (bl s) 47)) ∧ W = w' from has_any s 47 W hs)
  have HP : entryName (bl s) = (decide (1 ≤ s.size) && decide (s.size ≤ 64) && !hasB (bl s) 0 && !hasB (bl s) 47 && !(s.toList == [46]) && !(s.toList == [46, 46])) := by rw [entryName, bl_length, bl_is, bl_is]; rfl
  rw [HP]
  clear HP
  generalize hasB (bl s) 0 = b0 at *
  generalize hasB (bl s) 47 = b1 at *
  obtain ⟨b2, e2⟩ : ∃ b, (s.toList == [46]) = b := ⟨_, rfl⟩
  obtain ⟨b3, e3⟩ : ∃ b, (s.toList == [46, 46]) = b := ⟨_, rfl⟩
  rw [e2, e3]
  by_cases h1 : 1 ≤ s.size
  · have i1 : (1 : Int) ≤ s.size := by omega
    by_cases h2 : s.size ≤ 64
    · have i2 : (s.size : Int) ≤ 64 := by omega
      rw [decide_eq_true h1, decide_eq_true h2]
      clear h1 h2
      cases b0 <;> cases b1 <;> cases b2 <;> cases b3
      all_goals
        go_enter Tryz.func21, Tryz.ntmps21
        go_wp2_with (go_at_call 40; first | (with_reducible refine (H0.out _).mono ?_; rintro r w2 ⟨rfl, rfl⟩) | (with_reducible refine (H1.out _).mono ?_; rintro r w3 ⟨rfl, rfl⟩))
        go_ret
        exact ⟨rfl, rfl⟩
    · have i2 : ¬ (s.size : Int) ≤ 64 := by omega
      rw [decide_eq_true h1, decide_eq_false h2]
      clear h1 h2
      go_enter Tryz.func21, Tryz.ntmps21
      go_wp2_with fail
      go_ret
      exact ⟨rfl, rfl⟩
  · have i1 : ¬ (1 : Int) ≤ s.size := by omega
    rw [decide_eq_false h1]
    clear h1
    go_enter Tryz.func21, Tryz.ntmps21
    go_wp2_with fail
    go_ret
    exact ⟨rfl, rfl⟩

theorem tag_cases (n : Nat) : n ≤ 44 ∨ n = 45 ∨ n = 46 ∨ n = 47 ∨ (48 ≤ n ∧ n ≤ 57) ∨ (58 ≤ n ∧ n ≤ 64) ∨ (65 ≤ n ∧ n ≤ 90) ∨ (91 ≤ n ∧ n ≤ 94) ∨ n = 95 ∨ n = 96 ∨ (97 ≤ n ∧ n ≤ 122) ∨ 123 ≤ n := by omega
theorem tag_yes {l : List UInt8} {n : Nat} (hl : l.length = n) (h : ∀ j, j < n → tagChar (l.getD j 0) = true) : l.all tagChar = true := by
  rw [List.all_eq_true]
  intro c hc
  obtain ⟨j, hj, rfl⟩ := List.getElem_of_mem hc
  have := h j (by omega)
  rwa [List.getD_eq_getElem?_getD, List.getElem?_eq_getElem hj] at this
theorem tag_no {l : List UInt8} {k : Nat} (hk : k < l.length) (h : tagChar (l.getD k 0) = false) : l.all tagChar = false := by
  rw [List.all_eq_false]
  rw [List.getD_eq_getElem?_getD, List.getElem?_eq_getElem hk] at h
  exact ⟨_, List.getElem_mem hk, by simp only [Option.getD_some] at h; simp [h]⟩

set_option maxHeartbeats 4000000 in
set_option maxRecDepth 100000 in
theorem tagName_any (s : ByteArray) (w : World) (hs : s.size ≤ 1000000) : Calls Tryz.prog 19 #[.string s] w fun e w' => e = .returned (.bool (tagName (bl s))) ∧ w = w' := by
  go_enter Tryz.func19, Tryz.ntmps19
  go_wp2_with fail
  go_loopg [3] s.size (fun g i wr => ∃ k : Nat, k ≤ s.size ∧ g = s.size - k ∧ i = .int .i64 k ∧ w = wr ∧ ∀ j, j < k → tagChar ((bl s).getD j 0) = true)
  case atStart => exact ⟨0, Nat.zero_le _, rfl, rfl, rfl, fun j hj => absurd hj (Nat.not_lt_zero _)⟩
  case round =>
    obtain ⟨k, hk, rfl, rfl, rfl, hall⟩ := hrel
    have HA := Lib.hid hall
    clear hall
    by_cases hlt : k < s.size
    · have hki : (k : Int) < s.size := by omega
      have E0 := Lib.hid (bl_getD s k hlt)
      have HY := Lib.hid (show tagChar s[k] = true → ∀ j, j < k + 1 → tagChar ((bl s).getD j 0) = true from fun he j hj => by
          by_cases h : j = k
          · subst h; rw [E0.out]; exact he
          · exact HA.out j (by omega))
      have HN := Lib.hid (show tagChar s[k] = false → tagName (bl s) = false from fun he => by
          rw [tagName, tag_no (k := k) (by rw [bl_length]; exact hlt) (by rw [E0.out]; exact he)]; rfl)
      obtain ⟨n, hn⟩ : ∃ n, s[k].toNat = n := ⟨_, rfl⟩
      have HT := Lib.hid (show tagChar s[k] = decide (97 ≤ n ∧ n ≤ 122 ∨ 65 ≤ n ∧ n ≤ 90 ∨ 48 ≤ n ∧ n ≤ 57 ∨ n = 46 ∨ n = 95 ∨ n = 45 ∨ n = 47) from by rw [tagChar, hn])
      have hni : (s[k].toNat : Int) = n := by rw [hn]
      clear hn HA
      have a1 : decide ((97 : Int) ≤ n) = true ∨ decide ((97 : Int) ≤ n) = false := by cases decide ((97 : Int) ≤ n) <;> simp
      clear a1
      rcases tag_cases n with h | h | h | h | h | h | h | h | h | h | h | h
      all_goals
        first | have d1 : (97 : Int) ≤ n := by omega
              | have d1 : ¬ (97 : Int) ≤ n := by omega
        first | have d2 : (n : Int) ≤ 122 := by omega
              | have d2 : ¬ (n : Int) ≤ 122 := by omega
        first | have d3 : (65 : Int) ≤ n := by omega
              | have d3 : ¬ (65 : Int) ≤ n := by omega
        first | have d4 : (n : Int) ≤ 90 := by omega
              | have d4 : ¬ (n : Int) ≤ 90 := by omega
        first | have d5 : (48 : Int) ≤ n := by omega
              | have d5 : ¬ (48 : Int) ≤ n := by omega
        first | have d6 : (n : Int) ≤ 57 := by omega
              | have d6 : ¬ (n : Int) ≤ 57 := by omega
        first | have d7 : ((n : Int) == 46) = true := beq_iff_eq.2 (by omega)
              | have d7 : ((n : Int) == 46) = false := beq_eq_false_iff_ne.2 (by omega)
        first | have d8 : ((n : Int) == 95) = true := beq_iff_eq.2 (by omega)
              | have d8 : ((n : Int) == 95) = false := beq_eq_false_iff_ne.2 (by omega)
        first | have d9 : ((n : Int) == 45) = true := beq_iff_eq.2 (by omega)
              | have d9 : ((n : Int) == 45) = false := beq_eq_false_iff_ne.2 (by omega)
        first | have dA : ((n : Int) == 47) = true := beq_iff_eq.2 (by omega)
              | have dA : ((n : Int) == 47) = false := beq_eq_false_iff_ne.2 (by omega)
        first
          | have HX := Lib.hid (HY.out (by rw [HT.out]; exact decide_eq_true (by omega)))
            clear h HY HN HT
            go_wp2
            go_roundg (s.size - (k + 1))
            case rel => exact ⟨k + 1, by omega, rfl, by go_num, rfl, HX.out⟩
            case measure => omega
          | have HX := Lib.hid (HN.out (by rw [HT.out]; exact decide_eq_false (by omega)))
            clear h HY HN HT
            go_wp2
            go_ret
            exact ⟨ret_bool HX.out.symm, rfl⟩
    · have hki : ¬ (k : Int) < s.size := by omega
      have HH := Lib.hid (show tagName (bl s) = (decide (1 ≤ s.size) && decide (s.size ≤ 64)) by rw [tagName, tag_yes (bl_length s) (fun j hj => HA.out j (by omega)), bl_length, Bool.true_and])
      clear HA
      by_cases h1 : 1 ≤ s.size
      · have i1 : (1 : Int) ≤ s.size := by omega
        by_cases h2 : s.size ≤ 64
        · have i2 : (s.size : Int) ≤ 64 := by omega
          rw [decide_eq_true h1, decide_eq_true h2] at HH
          clear h1 h2
          go_wp2
          go_ret
          exact ⟨ret_bool HH.out.symm, rfl⟩
        · have i2 : ¬ (s.size : Int) ≤ 64 := by omega
          rw [decide_eq_true h1, decide_eq_false h2] at HH
          clear h1 h2
          go_wp2
          go_ret
          exact ⟨ret_bool HH.out.symm, rfl⟩
      · have i1 : ¬ (1 : Int) ≤ s.size := by omega
        rw [decide_eq_false h1] at HH
        clear h1
        go_wp2
        go_ret
        exact ⟨ret_bool (HH.out.trans (Bool.false_and _)).symm, rfl⟩

theorem mode_word (m : Int) : bl (str (modeW m)) = modeW m := bl_str _
set_option maxHeartbeats 2000000 in
set_option maxRecDepth 100000 in
theorem mode_any (m : Int) (w : World) (h : 1 ≤ m ∧ m ≤ 3) : Calls Tryz.prog 55 #[.int .i64 m] w fun e w' => e = .returned (.string (str (modeW m))) ∧ w = w' := by
  have x1 : (Instr.index 95 (.agg #[.string ⟨#[]⟩, .string ⟨#[49, 48, 48, 54, 52, 52]⟩, .string ⟨#[49, 48, 48, 55, 53, 53]⟩, .string ⟨#[52, 48, 48, 48, 48]⟩]) (.int .i64 1)).run Tryz.prog w = .ok (.string ⟨#[49, 48, 48, 54, 52, 52]⟩) w := by kernel_rfl
  have x2 : (Instr.index 95 (.agg #[.string ⟨#[]⟩, .string ⟨#[49, 48, 48, 54, 52, 52]⟩, .string ⟨#[49, 48, 48, 55, 53, 53]⟩, .string ⟨#[52, 48, 48, 48, 48]⟩]) (.int .i64 2)).run Tryz.prog w = .ok (.string ⟨#[49, 48, 48, 55, 53, 53]⟩) w := by kernel_rfl
  have x3 : (Instr.index 95 (.agg #[.string ⟨#[]⟩, .string ⟨#[49, 48, 48, 54, 52, 52]⟩, .string ⟨#[49, 48, 48, 55, 53, 53]⟩, .string ⟨#[52, 48, 48, 48, 48]⟩]) (.int .i64 3)).run Tryz.prog w = .ok (.string ⟨#[52, 48, 48, 48, 48]⟩) w := by kernel_rfl
  rcases (by omega : m = 1 ∨ m = 2 ∨ m = 3) with rfl | rfl | rfl
  all_goals
    go_enter Tryz.func55, Tryz.ntmps55
    go_wp2
    go_ret
    exact ⟨rfl, rfl⟩
end Go.Proofs.YtapjgdhdgpakhaaGreatDoor.Hj
