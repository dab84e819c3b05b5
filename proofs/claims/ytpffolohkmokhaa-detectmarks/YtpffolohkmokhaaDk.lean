/-
  Contracts of the library's IndexFunc and ContainsFunc (package slices) at the differences and the method value that the program hands them.
-/
import Derived.Test.YtpffolohkmokhaaDq
namespace Go.Proofs.Ytpffolohkmokhaa.Hd
open Go.RowKit Hs Hp
set_option linter.unusedVariables false

/-- is one of the first n differences a hit? -/
def anyHit (L : List UInt32) (S E : Sh.Ch) (n : Nat) : Bool := (List.range n).any fun i => Dv.hit L S E (Dv.vdiff i)
theorem anyHit_succ (L : List UInt32) (S E : Sh.Ch) (n : Nat) : anyHit L S E (n + 1) = (anyHit L S E n || Dv.hit L S E (Dv.vdiff n)) := by simp [anyHit, List.range_succ]
theorem anyHit_mono (L : List UInt32) (S E : Sh.Ch) (n : Nat) : ∀ k, anyHit L S E n = true → anyHit L S E (n + k) = true
  | 0, h => h
  | k + 1, h => by rw [← Nat.add_assoc, anyHit_succ, anyHit_mono L S E n k h, Bool.true_or]
theorem anyHit_at (L : List UInt32) (S E : Sh.Ch) (n : Nat) (hn : n < 21) (h : Dv.hit L S E (Dv.vdiff n) = true) : anyHit L S E 21 = true := by
  have h1 := anyHit_mono L S E (n + 1) (21 - (n + 1)) (by rw [anyHit_succ, h, Bool.or_true])
  rwa [show n + 1 + (21 - (n + 1)) = 21 by omega] at h1
/-- the bound method -/
def mark (L : List UInt32) (S E : Sh.Ch) : Value := .func (.func 31) #[.agg (ps L S E)] #[]

set_option maxHeartbeats 2000000 in
set_option maxRecDepth 100000 in
theorem indexFunc_any (L : List UInt32) (S E : Sh.Ch) (g c : Nat) (w : World) (hD : Ds w g) (hg : g < w.heap.size) :
    Calls Try.prog 49 #[.slice (some ⟨g, 0, none⟩) 21 c, mark L S E] w
      fun e w' => (∃ i : Int, e = .returned (.int .i64 i) ∧ decide (0 ≤ i) = anyHit L S E 21) ∧ Below w.heap.size w w' := by
  unfold mark
  have h0 : anyHit L S E 0 = false := rfl
  have H0 := Lib.hid h0
  have HD := Lib.hid hD
  clear h0 hD
  go_enter Try.func49, Try.ntmps49
  go_wp2
  go_loopg [5, 8] 21 (fun gk s5 i wr => ∃ n : Nat, n ≤ 21 ∧ gk = 21 - n ∧ i = .int .i64 n ∧ Below w.heap.size w wr ∧ anyHit L S E n = false)
  case atStart => exact ⟨0, Nat.zero_le _, rfl, rfl, Below.refl _ _, H0.out⟩
  case round =>
    obtain ⟨n, hn, rfl, rfl, hbl, hno⟩ := hrel
    clear H0
    by_cases hlt : n < 21
    · have hi1 : ((n : Nat) : Int) < 21 := by omega
      have hi0 : (0 : Int) ≤ ((n : Nat) : Int) := by omega
      have HL := Lib.hid ((HD.out.below hbl hg).load n hlt)
      have HM := Lib.hid (fun W => markedBy_any L (Dv.vdiff n) S E W)
      have hsu := anyHit_succ L S E n
      have hat := anyHit_at L S E n hlt
      rw [hno, Bool.false_or] at hsu
      generalize Dv.hit L S E (Dv.vdiff n) = b at *
      have HS := Lib.hid hsu
      have HA := Lib.hid hat
      have HB := Lib.hid hbl
      clear hsu hat hbl hno
      generalize Dv.vdiff n = V at *
      cases b
      · go_wp2_with (first
          | (with_reducible refine wpList_load_sub rfl 32 (.tmp 14) rfl g (n * 80) rfl (ws V) HL.out ?_)
          | (go_at_call 31; refine (HM.out _).mono ?_; rintro e w2 ⟨rfl, hb2⟩; have HB2 := Lib.hid (HB.out.trans (hb2.mono HB.out.size)); clear hb2))
        go_roundg (21 - (n + 1))
        case rel => exact ⟨n + 1, by omega, rfl, by go_num, HB2.out, HS.out⟩
        case measure => omega
      · go_wp2_with (first
          | (with_reducible refine wpList_load_sub rfl 32 (.tmp 14) rfl g (n * 80) rfl (ws V) HL.out ?_)
          | (go_at_call 31; refine (HM.out _).mono ?_; rintro e w2 ⟨rfl, hb2⟩; have HB2 := Lib.hid (HB.out.trans (hb2.mono HB.out.size)); clear hb2))
        go_ret
        exact ⟨⟨n, rfl, by rw [HA.out (by trivial)]; exact decide_eq_true hi0⟩, HB2.out⟩
    · obtain rfl : n = 21 := by omega
      have HN := Lib.hid hno
      clear hno
      go_wp2
      go_ret
      exact ⟨⟨-1, rfl, by rw [HN.out]; rfl⟩, hbl⟩

theorem contains_any (L : List UInt32) (S E : Sh.Ch) (g c : Nat) (w : World) (hD : Ds w g) (hg : g < w.heap.size) :
    Calls Try.prog 41 #[.slice (some ⟨g, 0, none⟩) 21 c, mark L S E] w
      fun e w' => e = .returned (.bool (anyHit L S E 21)) ∧ Below w.heap.size w w' := by
  have HC := Lib.hid (indexFunc_any L S E g c w hD hg)
  clear hD
  generalize mark L S E = mk at *
  generalize anyHit L S E 21 = b at *
  go_enter Try.func41, Try.ntmps41
  go_wp2_with fail
  refine HC.out.mono ?_
  rintro e w1 ⟨⟨i, rfl, hi⟩, hb⟩
  have HI := Lib.hid hi
  clear hi
  go_wp2
  go_ret
  refine ⟨?_, hb⟩
  rw [← HI.out]
  rfl
end Go.Proofs.Ytpffolohkmokhaa.Hd
