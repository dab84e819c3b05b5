/-
  Contracts of the statements' own few and awake.
-/
import Derived.Test.YtmblabonnioomaaC
namespace Go.Proofs.Ytmblabonnioomaa
open Go.RowKit
set_option linter.unusedVariables false

/-- what few says: so few names, so short ones -/
def FewPost (ss : List ByteArray) (w : World) (e : Ending) (w' : World) : Prop :=
  ∃ r : Bool, e = .returned (.bool r) ∧ w = w' ∧ (r = true → ss.length ≤ 200 ∧ ∀ i, i < ss.length → (ss.getD i ByteArray.empty).size ≤ 5000)

set_option maxHeartbeats 400000 in
set_option maxRecDepth 100000 in
theorem few_any (A : Option Addr) (c B : Nat) (ss : List ByteArray) (w : World) (hr : Strs w B A ss) :
    Calls Try.prog 9 #[.slice A ss.length c] w (FewPost ss w) := by
  have HR := Lib.hid hr
  clear hr
  go_enter Try.func9, Try.ntmps9
  go_wp2
  go_loopg [3, 4] ss.length (fun g x i wr => ∃ (k v : Nat), k ≤ ss.length ∧ k ≤ 200 ∧ g = ss.length - k ∧ i = .int .i64 k ∧ x = .int .i64 v ∧ v ≤ 5000 ∧ (∀ i, i < k → (ss.getD i ByteArray.empty).size ≤ 5000) ∧ w = wr)
  case atStart => exact ⟨0, 0, Nat.zero_le _, Nat.zero_le _, rfl, rfl, rfl, Nat.zero_le _, fun i hi => absurd hi (Nat.not_lt_zero _), rfl⟩
  case round =>
    obtain ⟨k, v, hk, hk2, rfl, rfl, rfl, hv, hall, rfl⟩ := hrel
    have HA := Lib.hid hall
    clear hall
    by_cases hlt : k < ss.length
    · obtain ⟨ad, rfl, hblk, hc⟩ := HR.out k hlt
      generalize hy : ss.getD k ByteArray.empty = y at *
      have HY := Lib.hid hy
      clear hy
      go_wp2
      all_goals first
        | (go_ret; exact ⟨false, rfl, rfl, fun h => by cases h⟩)
        | skip
      go_roundg (ss.length - (k + 1))
      case rel =>
        obtain ⟨h4, h5⟩ := ‹(k : Int) < 200 ∧ ((v : Int) + 1 + if 5000 < (y.size : Int) then 5000 else (y.size : Int)) ≤ 5000›
        rw [if_neg (by omega)] at h5
        refine ⟨k + 1, v + 1 + y.size, by omega, by omega, rfl, by go_num, by go_num, by omega, fun i hi => ?_, rfl⟩
        by_cases e : i = k
        · subst e; rw [HY.out]; omega
        · exact HA.out i (by omega)
      case measure => omega
    · go_wp2
      go_ret
      exact ⟨true, rfl, rfl, fun _ => ⟨by omega, fun i hi => HA.out i (by omega)⟩⟩

theorem bytes_one (w : World) : Calls Try.prog 10 #[.string { data := #[48, 48, 102, 102, 49, 97] }] w fun e w' => e = .returned (.tuple #[.string { data := #[0, 255, 26] }, .int .i64 0]) ∧ Below w.heap.size w w' := by
  have h := Bytes_any { data := #[48, 48, 102, 102, 49, 97] } w (by decide)
  rwa [show str (M.unb (bl { data := #[48, 48, 102, 102, 49, 97] })) = { data := #[0, 255, 26] } by decide, show M.unc (bl { data := #[48, 48, 102, 102, 49, 97] }) = 0 by decide] at h
theorem bytes_two (w : World) : Calls Try.prog 10 #[.string { data := #[70, 70] }] w fun e w' => e = .returned (.tuple #[.string { data := #[] }, .int .i64 3]) ∧ Below w.heap.size w w' := by
  have h := Bytes_any { data := #[70, 70] } w (by decide)
  rwa [show str (M.unb (bl { data := #[70, 70] })) = { data := #[] } by decide, show M.unc (bl { data := #[70, 70] }) = 3 by decide] at h
theorem digits_one (w : World) : Calls Try.prog 14 #[.string { data := #[171, 192] }] w fun e w' => e = .returned (.string { data := #[97, 98, 99, 48] }) ∧ Below w.heap.size w w' := by
  have h := Digits_any { data := #[171, 192] } w (by decide)
  rwa [show str (M.digs (bl { data := #[171, 192] })) = { data := #[97, 98, 99, 48] } by decide] at h
theorem short_one (w : World) : Calls Try.prog 16 #[.string { data := #[97, 98, 99] }] w fun e w' => e = .returned (.int .i64 1) ∧ w = w' := by
  have h := Short_any { data := #[97, 98, 99] } w (by decide)
  rwa [show M.shortC (bl { data := #[97, 98, 99] }) = 1 by decide] at h
theorem size_one (w : World) : Calls Try.prog 20 #[.int .i64 2] w fun e w' => e = .returned (.int .i64 32) ∧ w = w' := by
  have h := Size_any 2 w
  rwa [if_neg (by decide), if_pos rfl] at h
theorem least_one (w : World) : Calls Try.prog 24 #[.slice none 0 0, .string { data := #[171, 205, 239] }] w fun e w' => e = .returned (.int .i64 4) ∧ w = w' := by
  have h := Least_any none 0 0 [] { data := #[171, 205, 239] } w (fun i hi => by cases hi) (by decide) (fun i hi => by cases hi) (by decide)
  rwa [show M.least (bls []) (bl { data := #[171, 205, 239] }) = 4 by decide] at h
theorem find_one (w : World) (ad : Addr) (h0 : w.cell? ad = some (.string { data := #[171, 205] })) (h1 : w.cell? (ad.add 1) = some (.string { data := #[171, 206] })) :
    Calls Try.prog 12 #[.slice (some ad) 2 2, .string { data := #[97, 98, 99, 100] }] w fun e w' => e = .returned (.tuple #[.string { data := #[171, 205] }, .int .i64 0]) ∧ Drawn w w' := by
  have h := Find_any (some ad) 2 (ad.block + 1) [{ data := #[171, 205] }, { data := #[171, 206] }] { data := #[97, 98, 99, 100] } w (fun i hi => by
    refine ⟨ad, rfl, by omega, ?_⟩
    match i, hi with
    | 0, _ => exact h0
    | 1, _ => exact h1) (by decide) (fun i hi => by
    match i, hi with
    | 0, _ => decide
    | 1, _ => decide) (by decide)
  rwa [show M.findR (bls [{ data := #[171, 205] }, { data := #[171, 206] }]) (bl { data := #[97, 98, 99, 100] }) = ([171, 205], 0) by decide] at h

theorem cell_of_blk {w : World} {g i : Nat} {cs : Array Value} {t : TypeId} {v : Value} (h : w.heap[g]? = some (.cells cs t (0, 0))) (hv : cs[i]? = some v) : w.cell? ⟨g, i, none⟩ = some v := by
  simp [World.cell?, h, hv]

set_option maxHeartbeats 400000 in
theorem awake_any (w : World) : Calls Try.prog 8 #[] w fun e w' => e = .returned (.bool true) ∧ Below w.heap.size w w' := by
  go_enter Try.func8, Try.ntmps8
  go_wp2_with fail
  refine (bytes_one _).mono ?_
  rintro e w1 ⟨rfl, hb1⟩
  go_wp2_with fail
  refine (bytes_two _).mono ?_
  rintro e w2 ⟨rfl, hb2⟩
  go_wp2_with fail
  have hb3 : Below w.heap.size w (w2.alloc (.cells #[.string { data := #[171, 205] }, .string { data := #[171, 206] }] 9)) :=
    (hb1.trans (hb2.mono hb1.size)).alloc (Nat.le_trans hb1.size hb2.size) _
  have hh : (w2.alloc (.cells #[.string { data := #[171, 205] }, .string { data := #[171, 206] }] 9)).heap[w2.heap.size]? = some (.cells #[.string { data := #[171, 205] }, .string { data := #[171, 206] }] 9 (0, 0)) := Deep.blk_alloc_new _ _
  refine (find_one _ ⟨w2.heap.size, 0, none⟩ (cell_of_blk hh rfl) (cell_of_blk hh rfl)).mono ?_
  rintro e w3 ⟨rfl, hd3⟩
  have hb4 := hb3.trans (hd3.below _)
  clear hb1 hb2 hb3 hd3 hh
  go_wp2_with fail
  refine (digits_one _).mono ?_
  rintro e w4 ⟨rfl, hb5⟩
  have hb6 := hb4.trans (hb5.mono hb4.size)
  clear hb4 hb5
  go_wp2_with fail
  refine (size_one _).mono ?_
  rintro e w5 ⟨rfl, rfl⟩
  go_wp2_with fail
  refine (short_one _).mono ?_
  rintro e w6 ⟨rfl, rfl⟩
  go_wp2_with fail
  refine (least_one _).mono ?_
  rintro e w7 ⟨rfl, rfl⟩
  go_wp2
  go_ret
  exact ⟨rfl, hb6⟩
end Go.Proofs.Ytmblabonnioomaa
