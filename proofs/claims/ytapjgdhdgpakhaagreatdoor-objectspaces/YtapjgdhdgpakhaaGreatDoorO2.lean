/-
  Layer 11, the program's side: lists of parents that are right.
-/
import Derived.Test.YtapjgdhdgpakhaaGreatDoorO1
import Derived.Test.YtapjgdhdgpakhaaGreatDoorOv
namespace Go.Proofs.YtapjgdhdgpakhaaGreatDoor.Hj
open Go.RowKit Ob Hr
set_option linter.unusedVariables false

/-- a cell that is known for good -/
theorem cell_step {w w' : World} {g : Nat} {v : Value} (h : w.cell? ⟨g, 0, none⟩ = some v) (hg : g < w.heap.size) (hb : Below w.heap.size w w') : w'.cell? ⟨g, 0, none⟩ = some v := by rw [hb.cell hg]; exact h
set_option maxHeartbeats 1000000 in
set_option maxRecDepth 100000 in
theorem named_any (s : ByteArray) (n g : Nat) (w : World) (hc : w.cell? ⟨g, 0, none⟩ = some (.int .i64 n)) :
    Calls Tryz.prog 42 #[.string s, .pointer (some ⟨g, 0, none⟩)] w fun e w' => e = .returned (.bool (decide (s.size = n))) ∧ w = w' := by
  have hq : ((s.size : Int) == n) = decide (s.size = n) := by rw [Bool.eq_iff_iff, beq_iff_eq, decide_eq_true_eq]; omega
  cases hb : decide (s.size = n)
  all_goals
    rw [hb] at hq
    clear hb
    go_enter Tryz.func42, Tryz.ntmps42
    go_wp2
    go_ret
    exact ⟨rfl, rfl⟩

/-! ### is a text among texts -/
def memB (x : ByteArray) (l : List ByteArray) : Bool := l.any fun y => decide (x = y)
theorem memB_iff {x : ByteArray} {l : List ByteArray} : memB x l = true ↔ x ∈ l := by simp [memB]
theorem among_no {l : List ByteArray} {x : ByteArray} (h : ∀ j, j < l.length → l.getD j ByteArray.empty ≠ x) : memB x l = false := by
  rw [← Bool.not_eq_true, memB_iff]
  intro hm
  obtain ⟨j, hj, he⟩ := List.getElem_of_mem hm
  exact h j hj (by rw [List.getD_eq_getElem?_getD, List.getElem?_eq_getElem hj]; exact he)
theorem among_yes {l : List ByteArray} {x : ByteArray} {k : Nat} (hk : k < l.length) (h : l.getD k ByteArray.empty = x) : memB x l = true := by
  rw [memB_iff, ← h, List.getD_eq_getElem?_getD, List.getElem?_eq_getElem hk]
  exact List.getElem_mem hk

set_option maxHeartbeats 4000000 in
set_option maxRecDepth 100000 in
theorem pindex_any (w : World) (B : Nat) (A : Option Addr) (c : Nat) (l : List ByteArray) (x : ByteArray) (h : Strs w B A l) (hl : l.length ≤ 1000000) :
    Calls Tryz.prog 100 #[.slice A l.length c, .string x] w fun e w' => (∃ i : Int, e = .returned (.int .i64 i) ∧ decide (0 ≤ i) = memB x l) ∧ w = w' := by
  have HI := Lib.hid h
  clear h
  go_enter Tryz.func100, Tryz.ntmps100
  go_wp2_with fail
  go_loopg [8] l.length (fun g i wr => ∃ k : Nat, k ≤ l.length ∧ g = l.length - k ∧ i = .int .i64 k ∧ w = wr ∧ ∀ j, j < k → l.getD j ByteArray.empty ≠ x)
  case atStart => exact ⟨0, Nat.zero_le _, rfl, rfl, rfl, fun j hj => by omega⟩
  case round =>
    obtain ⟨k, hk, rfl, rfl, rfl, hno⟩ := hrel
    have HN := Lib.hid hno
    clear hno
    by_cases hlt : k < l.length
    · have h1 : (k : Int) < l.length := by omega
      have h0 : (0 : Int) ≤ k := by omega
      obtain ⟨ad, rfl, hB1, c0⟩ := HI.out k hlt
      by_cases he : x = l.getD k ByteArray.empty
      · have HX := Lib.hid (among_yes hlt he.symm)
        have hq := str_beq he
        generalize l.getD k ByteArray.empty = y at *
        clear he
        go_wp2
        go_ret
        exact ⟨⟨k, rfl, by rw [HX.out]; exact decide_eq_true h0⟩, rfl⟩
      · have HX := Lib.hid (show ∀ j, j < k + 1 → l.getD j ByteArray.empty ≠ x from fun j hj => by
          by_cases e : j = k
          · rw [e]; exact fun h => he h.symm
          · exact HN.out j (by omega))
        have hq := str_bne he
        generalize l.getD k ByteArray.empty = y at *
        clear he
        go_wp2
        go_roundg (l.length - (k + 1))
        case rel => exact ⟨k + 1, by omega, rfl, by go_num, rfl, HX.out⟩
        case measure => omega
    · have h1 : ¬ (k : Int) < l.length := by omega
      have HX := Lib.hid (among_no (l := l) (x := x) fun j hj => HN.out j (by omega))
      go_wp2
      go_ret
      exact ⟨⟨-1, rfl, by rw [HX.out]; rfl⟩, rfl⟩

set_option maxHeartbeats 4000000 in
set_option maxRecDepth 100000 in
theorem pcontains_any (w : World) (B : Nat) (A : Option Addr) (c : Nat) (l : List ByteArray) (x : ByteArray) (n : Nat) (hn : l.length = n) (h : Strs w B A l) (hl : l.length ≤ 1000000) :
    Calls Tryz.prog 77 #[.slice A n c, .string x] w fun e w' => e = .returned (.bool (memB x l)) ∧ w = w' := by
  subst hn
  have HX := Lib.hid (pindex_any w B A c l x h hl)
  clear h
  go_enter Tryz.func77, Tryz.ntmps77
  generalize memB x l = b at *
  cases b
  all_goals
    go_wp2_with (go_at_call 100; refine HX.out.mono ?_; rintro r w2 ⟨⟨i, rfl, hi⟩, rfl⟩; first | (have hj : (0 : Int) ≤ i := of_decide_eq_true hi) | (have hj : ¬ (0 : Int) ≤ i := of_decide_eq_false hi))
    go_ret
    exact ⟨rfl, rfl⟩

/-! ### parents that are right -/
theorem take_snoc {l : List ByteArray} {k : Nat} (hk : k < l.length) : l.take (k + 1) = l.take k ++ [l.getD k ByteArray.empty] := by
  rw [List.take_add_one, List.getD_eq_getElem?_getD, List.getElem?_eq_getElem hk]; rfl
theorem parsOk_no1 {n : Nat} {l : List ByteArray} {k : Nat} (hk : k < l.length) (h : ¬ (l.getD k ByteArray.empty).size = n) : parsOk n l = false := by
  have : l.all (fun p => decide (p.size = n)) = false := by
    rw [List.all_eq_false]
    refine ⟨l.getD k ByteArray.empty, ?_, by rw [decide_eq_false h]; decide⟩
    rw [List.getD_eq_getElem?_getD, List.getElem?_eq_getElem hk]; exact List.getElem_mem hk
  rw [parsOk, this]; rfl
theorem parsOk_no2 {n : Nat} {l : List ByteArray} {k : Nat} (hk : k < l.length) (h : l.getD k ByteArray.empty ∈ l.take k) : parsOk n l = false := by
  have : decide l.Nodup = false := by
    rw [decide_eq_false_iff_not]
    intro hn
    have h2 := hn.sublist (List.take_sublist (k + 1) l)
    rw [take_snoc hk, List.nodup_append] at h2
    exact h2.2.2 _ h _ (by simp) rfl
  rw [parsOk, this, Bool.and_false]
theorem nodup_snoc {l : List ByteArray} {x : ByteArray} (h : l.Nodup) (hx : x ∉ l) : (l ++ [x]).Nodup := by
  rw [List.nodup_append]
  exact ⟨h, by simp, fun a ha b hb e => by simp at hb; subst hb; subst e; exact hx ha⟩
theorem parsOk_yes {n : Nat} {l : List ByteArray} (h1 : ∀ j, j < l.length → (l.getD j ByteArray.empty).size = n) (h2 : l.Nodup) : parsOk n l = true := by
  rw [parsOk, decide_eq_true h2, Bool.and_true, List.all_eq_true]
  intro p hp
  obtain ⟨j, hj, rfl⟩ := List.getElem_of_mem hp
  have := h1 j hj
  rw [List.getD_eq_getElem?_getD, List.getElem?_eq_getElem hj] at this
  exact decide_eq_true this
theorem strs_take {w : World} {B : Nat} {A : Option Addr} {l : List ByteArray} (h : Strs w B A l) (k : Nat) (hk : k ≤ l.length) : Strs w B A (l.take k) := fun i hi => by
  have hi2 : i < k := by simp at hi; omega
  obtain ⟨ad, e, hlt, hc⟩ := h i (by omega)
  refine ⟨ad, e, hlt, ?_⟩
  rw [hc, List.getD_eq_getElem?_getD, List.getD_eq_getElem?_getD, List.getElem?_take_of_lt hi2]

set_option maxHeartbeats 8000000 in
set_option maxRecDepth 100000 in
theorem rightParents_any (w : World) (B : Nat) (A : Option Addr) (c : Nat) (l : List ByteArray) (n g : Nat) (h : Strs w B A l) (hcap : l.length ≤ c) (hc : w.cell? ⟨g, 0, none⟩ = some (.int .i64 n)) :
    Calls Tryz.prog 44 #[.slice A l.length c, .func (.func 42) #[] #[.pointer (some ⟨g, 0, none⟩)]] w fun e w' => e = .returned (.bool (decide (l.length ≤ 8) && parsOk n l)) ∧ w = w' := by
  have HI := Lib.hid h
  have HN := Lib.hid (fun s => named_any s n g w hc)
  clear h hc
  by_cases h8 : l.length ≤ 8
  · have i8 : ¬ (8 : Int) < l.length := by omega
    rw [decide_eq_true h8, Bool.true_and]
    go_enter Tryz.func44, Tryz.ntmps44
    go_wp2_with fail
    go_loopg [12] l.length (fun gg i wr => ∃ k : Nat, k ≤ l.length ∧ gg = l.length - k ∧ i = .int .i64 k ∧ w = wr ∧ (∀ j, j < k → (l.getD j ByteArray.empty).size = n) ∧ (l.take k).Nodup)
    case atStart => exact ⟨0, Nat.zero_le _, rfl, rfl, rfl, fun j hj => by omega, by simp⟩
    case round =>
      obtain ⟨k, hk, rfl, rfl, rfl, hs, hnd⟩ := hrel
      have HS := Lib.hid (And.intro hs hnd)
      clear hs hnd
      by_cases hlt : k < l.length
      · have h1 : (k : Int) < l.length := by omega
        have h0 : (0 : Int) ≤ k := by omega
        have h2 : (k : Int) ≤ c := by omega
        obtain ⟨ad, rfl, hB1, c0⟩ := HI.out k hlt
        have HNk := Lib.hid (HN.out (l.getD k ByteArray.empty))
        have HC := Lib.hid (pcontains_any w B (some ad) c (l.take k) (l.getD k ByteArray.empty) k (by simp; omega) (strs_take HI.out k hk) (by simp; omega))
        by_cases he : (l.getD k ByteArray.empty).size = n
        · rw [decide_eq_true he] at HNk
          by_cases hm : l.getD k ByteArray.empty ∈ l.take k
          · have HX := Lib.hid (parsOk_no2 (n := n) hlt hm)
            rw [memB_iff.2 hm] at HC
            generalize l.getD k ByteArray.empty = y at *
            clear he hm
            go_wp2_with (first
              | (go_at_call 42; refine HNk.out.mono ?_; rintro r w2 ⟨rfl, rfl⟩)
              | (go_at_call 77; refine HC.out.mono ?_; rintro r w2 ⟨rfl, rfl⟩))
            go_ret
            exact ⟨by rw [HX.out]; rfl, rfl⟩
          · have HX := Lib.hid (show (∀ j, j < k + 1 → (l.getD j ByteArray.empty).size = n) ∧ (l.take (k + 1)).Nodup from ⟨fun j hj => by
              by_cases e : j = k
              · rw [e]; exact he
              · exact HS.out.1 j (by omega), by rw [take_snoc hlt]; exact nodup_snoc HS.out.2 hm⟩)
            rw [show memB (l.getD k ByteArray.empty) (l.take k) = false from by rw [← Bool.not_eq_true, memB_iff]; exact hm] at HC
            generalize l.getD k ByteArray.empty = y at *
            clear he hm
            go_wp2_with (first
              | (go_at_call 42; refine HNk.out.mono ?_; rintro r w2 ⟨rfl, rfl⟩)
              | (go_at_call 77; refine HC.out.mono ?_; rintro r w2 ⟨rfl, rfl⟩))
            go_roundg (l.length - (k + 1))
            case rel => exact ⟨k + 1, by omega, rfl, by go_num, rfl, HX.out.1, HX.out.2⟩
            case measure => omega
        · have HX := Lib.hid (parsOk_no1 hlt he)
          rw [decide_eq_false he] at HNk
          generalize l.getD k ByteArray.empty = y at *
          clear he HC
          go_wp2_with (go_at_call 42; refine HNk.out.mono ?_; rintro r w2 ⟨rfl, rfl⟩)
          go_ret
          exact ⟨by rw [HX.out]; rfl, rfl⟩
      · have h1 : ¬ (k : Int) < l.length := by omega
        have HX := Lib.hid (show parsOk n l = true from parsOk_yes (fun j hj => HS.out.1 j (by omega)) (by have := HS.out.2; rwa [List.take_of_length_le (by omega)] at this))
        go_wp2
        go_ret
        exact ⟨by rw [HX.out]; rfl, rfl⟩
  · have i8 : (8 : Int) < l.length := by omega
    rw [decide_eq_false h8, Bool.false_and]
    go_enter Tryz.func44, Tryz.ntmps44
    go_wp2_with fail
    go_ret
    exact ⟨rfl, rfl⟩
end Go.Proofs.YtapjgdhdgpakhaaGreatDoor.Hj
