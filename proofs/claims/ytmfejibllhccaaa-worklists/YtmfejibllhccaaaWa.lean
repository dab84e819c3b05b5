/-
  Contracts of the document's In, Same and Next (layer 6), over slices that read as numbers.
-/
import Derived.Test.YtmfejibllhccaaaC
import Derived.ArgAppend
import Derived.Laws.Rows
import Derived.Laws.Tables
import Derived.Maps.AppendAt
import Derived.OwnWalk
import Derived.Deep.AppendLies
import Derived.Deep.LoopGhost
import Derived.StillTailTactics
import Derived.Lib.Hide
import Derived.IntWalk
namespace Go.Proofs.Ytmfejibllhccaaa.Hw
open Go.RowKit
set_option linter.unusedVariables false

/-- a slice that reads as these numbers, nil let in -/
def Ints (w : World) (B : Nat) (A : Option Addr) (l : List Int) : Prop :=
  ∀ i, i < l.length → ∃ ad, A = some ad ∧ ad.block < B ∧ w.cell? (ad.add i) = some (.int .i64 (l.getD i 0))
/-- a slice that reads as these pairs -/
def Prs (w : World) (B : Nat) (A : Option Addr) (l : List (Int × Int)) : Prop :=
  ∀ i, i < l.length → ∃ ad, A = some ad ∧ ad.block < B ∧ w.cell? (ad.add (i * 2)) = some (.int .i64 (l.getD i (0, 0)).1) ∧ w.cell? ⟨(ad.add (i * 2)).block, (ad.add (i * 2)).off + 1, none⟩ = some (.int .i64 (l.getD i (0, 0)).2)
section
variable {w w' : World} {B B' : Nat} {A : Option Addr}
theorem Ints.below {l : List Int} (h : Ints w B A l) (hb : Below B w w') : Ints w' B A l := fun i hi => by
  obtain ⟨ad, e, hlt, hc⟩ := h i hi
  exact ⟨ad, e, hlt, by rw [hb.cell (by rw [block_of_add]; exact hlt)]; exact hc⟩
theorem Ints.mono {l : List Int} (h : Ints w B A l) (hB : B ≤ B') : Ints w B' A l := fun i hi => by
  obtain ⟨ad, e, hlt, hc⟩ := h i hi
  exact ⟨ad, e, Nat.lt_of_lt_of_le hlt hB, hc⟩
theorem Prs.below {l : List (Int × Int)} (h : Prs w B A l) (hb : Below B w w') : Prs w' B A l := fun i hi => by
  obtain ⟨ad, e, hlt, hc, hd⟩ := h i hi
  exact ⟨ad, e, hlt, by rw [hb.cell (by rw [block_of_add]; exact hlt)]; exact hc, by rw [hb.cell (by show (ad.add (i * 2)).block < B; rw [block_of_add]; exact hlt)]; exact hd⟩
theorem Prs.mono {l : List (Int × Int)} (h : Prs w B A l) (hB : B ≤ B') : Prs w B' A l := fun i hi => by
  obtain ⟨ad, e, hlt, hc⟩ := h i hi
  exact ⟨ad, e, Nat.lt_of_lt_of_le hlt hB, hc⟩
end
def intCells (l : List Int) : List Value := l.map fun x => .int .i64 x
theorem ints_cells {w : World} {B : Nat} {ad : Addr} {l : List Int} (h : Ints w B (some ad) l) : ∀ j u, (intCells l)[j]? = some u → w.cell? (ad.add j) = some u := fun j u hu => by
  have hj : j < l.length := by have := (List.getElem?_eq_some_iff.1 hu).1; simpa [intCells] using this
  obtain ⟨ad', e, _, hc⟩ := h j hj
  injection e with e
  subst e
  rw [hc, ← hu]
  simp [intCells, List.getD, List.getElem?_eq_getElem hj]
theorem ints_own {w : World} {base n : Nat} {v : Value} {l : List Int} (h : w.ownsRow base 3 1 v n (intCells l)) : ∃ A c, v = .slice A l.length c ∧ Ints w w.heap.size A l := by
  have hn : n = l.length := by have := h.1; simp [intCells] at this; omega
  subst hn
  rcases h.2 with ⟨rfl, h0⟩ | ⟨g, cap, cur, rfl, hb, hg, hle, hm, hsz, htk⟩
  · exact ⟨none, 0, by rw [h0], fun i hi => by omega⟩
  · refine ⟨_, cap, rfl, fun i hi => ⟨_, rfl, (Array.getElem?_eq_some_iff.1 hg).1, ?_⟩⟩
    exact h.cells (g := g) rfl i (.int .i64 (l.getD i 0)) (by simp [intCells, List.getD, List.getElem?_eq_getElem hi])
theorem take_succ_mem {l : List Int} {k : Nat} {n : Int} (hk : k < l.length) (h : n ∉ l.take k) (hne : ¬ l.getD k 0 = n) : n ∉ l.take (k + 1) := by
  rw [List.take_add_one, List.getElem?_eq_getElem hk]
  simp only [Option.toList_some, List.mem_append, List.mem_singleton, not_or]
  exact ⟨h, fun e => hne (by simp [List.getD, List.getElem?_eq_getElem hk, e])⟩

set_option maxRecDepth 100000 in
theorem in_any (w : World) (B : Nat) (A : Option Addr) (c : Nat) (l : List Int) (n : Int) (h : Ints w B A l) (hl : l.length ≤ 100000) :
    Calls Try.prog 16 #[.slice A l.length c, .int .i64 n] w fun e w' => e = .returned (.bool (decide (n ∈ l))) ∧ w' = w := by
  have HI := Lib.hid h
  clear h
  go_enter Try.func16, Try.ntmps16
  go_wp2
  go_loopg [5] l.length (fun g i wr => ∃ k : Nat, k ≤ l.length ∧ g = l.length - k ∧ i = .int .i64 k ∧ wr = w ∧ n ∉ l.take k)
  case atStart => exact ⟨0, Nat.zero_le _, rfl, rfl, rfl, by simp⟩
  case round =>
    obtain ⟨k, hk, rfl, rfl, rfl, hno⟩ := hrel
    by_cases hlt : k < l.length
    · have h1 : (k : Int) < l.length := by omega
      have h0 : (0 : Int) ≤ k := by omega
      obtain ⟨ad, rfl, hB, hc⟩ := HI.out k hlt
      by_cases he : l.getD k 0 = n
      · have hm : n ∈ l := by rw [← he]; simp [List.getD, List.getElem?_eq_getElem hlt]
        have HM := Lib.hid (decide_eq_true hm)
        rw [he] at hc
        clear hm he hno
        go_wp2
        go_ret
        exact ⟨by rw [HM.out]; rfl, rfl⟩
      · have HN := Lib.hid (take_succ_mem hlt hno he)
        generalize l.getD k 0 = x at *
        clear hno
        go_wp2
        go_roundg (l.length - (k + 1))
        case rel => exact ⟨k + 1, by omega, rfl, by go_num, rfl, HN.out⟩
        case measure => omega
    · obtain rfl : k = l.length := by omega
      rw [List.take_length] at hno
      have HN := Lib.hid (decide_eq_false hno)
      clear hno
      go_wp2
      go_ret
      exact ⟨by rw [HN.out]; rfl, rfl⟩
end Go.Proofs.Ytmfejibllhccaaa.Hw
