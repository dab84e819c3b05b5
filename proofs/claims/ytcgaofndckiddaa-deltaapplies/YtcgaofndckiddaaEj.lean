/-
  Layer 9: with how many bytes two texts begin, and end.
-/
import Derived.Test.YtcgaofndckiddaaEi
import Derived.Test.YtcgaofndckiddaaSt
import Derived.BigRegion
import Derived.BigQuiet
namespace Go.Proofs.Ytcgaofndckiddaa.Df
theorem ahead_nil2 (x : List UInt8) : ahead x [] = 0 := by cases x <;> rfl
theorem ahead_end1 (x y : List UInt8) (n : Nat) (h : x.length ≤ n) : ahead (x.drop n) (y.drop n) = 0 := by rw [List.drop_of_length_le h]; rfl
theorem ahead_end2 (x y : List UInt8) (n : Nat) (h : y.length ≤ n) : ahead (x.drop n) (y.drop n) = 0 := by rw [List.drop_of_length_le h, ahead_nil2]
theorem drop_cons (x : List UInt8) (n : Nat) (h : n < x.length) : x.drop n = x.getD n 0 :: x.drop (n + 1) := by
  rw [List.drop_eq_getElem_cons h]
  simp [List.getD, List.getElem?_eq_getElem h]
theorem ahead_eq (x y : List UInt8) (n : Nat) (hx : n < x.length) (hy : n < y.length) (h : x.getD n 0 = y.getD n 0) : ahead (x.drop n) (y.drop n) = ahead (x.drop (n + 1)) (y.drop (n + 1)) + 1 := by
  rw [drop_cons x n hx, drop_cons y n hy, ahead, if_pos h]
theorem ahead_ne (x y : List UInt8) (n : Nat) (hx : n < x.length) (hy : n < y.length) (h : x.getD n 0 ≠ y.getD n 0) : ahead (x.drop n) (y.drop n) = 0 := by
  rw [drop_cons x n hx, drop_cons y n hy, ahead, if_neg h]
end Go.Proofs.Ytcgaofndckiddaa.Df
namespace Go.Proofs.Ytcgaofndckiddaa.He
open Go.RowKit Hg Hw
set_option linter.unusedVariables false

theorem getD_rev (a : ByteArray) (n : Nat) (h : n < a.size) : (bl a).reverse.getD n 0 = a[a.size - 1 - n]'(by omega) := by
  have hl := bl_length a
  have e := bl_getD a (a.size - 1 - n) (by omega)
  rw [← e]
  simp only [List.getD]
  rw [List.getElem?_reverse (by rw [hl]; exact h), hl]

set_option maxHeartbeats 4000000 in
set_option maxRecDepth 100000 in
theorem ahead_any (a b : ByteArray) (w : World) (ha : a.size ≤ 100000) (hb : b.size ≤ 100000) :
    Calls Try.prog 20 #[.string a, .string b] w fun e w' => e = .returned (.int .i64 (Df.ahead (bl a) (bl b))) ∧ Below w.heap.size w w' := by
  obtain ⟨P, hP⟩ : ∃ P, bl a = P := ⟨_, rfl⟩
  obtain ⟨Q, hQ⟩ : ∃ Q, bl b = Q := ⟨_, rfl⟩
  obtain ⟨N, hN⟩ : ∃ N, Df.ahead (bl a) (bl b) = N := ⟨_, rfl⟩
  rw [hN]
  have hN2 : Df.ahead P Q = N := by rw [← hN, ← hP, ← hQ]
  have hPg : ∀ n, (h : n < a.size) → P.getD n 0 = a[n]'(by omega) := fun n h => by rw [← hP]; exact bl_getD a n h
  have hQg : ∀ n, (h : n < b.size) → Q.getD n 0 = b[n]'(by omega) := fun n h => by rw [← hQ]; exact bl_getD b n h
  have hPl : P.length = a.size := by rw [← hP]; exact bl_length a
  have hQl : Q.length = b.size := by rw [← hQ]; exact bl_length b
  have HA := Lib.hid (And.intro hN2 (And.intro hPl (And.intro hQl (And.intro hPg hQg))))
  clear hN hN2 hP hQ hPl hQl hPg hQg
  go_enter Try.func20, Try.ntmps20
  go_wp2_with fail
  go_loopg [5] a.size (fun gk v wr => ∃ n : Nat, gk = a.size - n ∧ v = .int .i64 n ∧ n ≤ a.size ∧ n ≤ b.size ∧ N = n + Df.ahead (P.drop n) (Q.drop n) ∧ Below w.heap.size w wr)
  case atStart => exact ⟨0, rfl, rfl, Nat.zero_le _, Nat.zero_le _, by rw [List.drop_zero, List.drop_zero, HA.out.1]; omega, Below.refl _ _⟩
  case round =>
    obtain ⟨n, rfl, rfl, hna, hnb, hn, hbl⟩ := hrel
    have HB := Lib.hid hbl
    have HN := Lib.hid hn
    clear hbl hn
    by_cases h1 : n < a.size
    · have h1i : (n : Int) < a.size := by omega
      by_cases h2 : n < b.size
      · have h2i : (n : Int) < b.size := by omega
        have z0 : (0 : Int) ≤ n := by omega
        have hp0 : P.getD n 0 = a[n] := HA.out.2.2.2.1 n h1
        have hq0 : Q.getD n 0 = b[n] := HA.out.2.2.2.2 n h2
        obtain ⟨p, hp⟩ : ∃ p, a[n].toNat = p := ⟨_, rfl⟩
        obtain ⟨q, hq⟩ : ∃ q, b[n].toNat = q := ⟨_, rfl⟩
        have pi : (a[n].toNat : Int) = p := by rw [hp]
        have qi : (b[n].toNat : Int) = q := by rw [hq]
        by_cases hpq : p = q
        · have e1 : ((p : Int) == q) = true := by simp [hpq]
          have HE := Lib.hid (Df.ahead_eq P Q n (by rw [HA.out.2.1]; exact h1) (by rw [HA.out.2.2.1]; exact h2) (by rw [hp0, hq0]; exact UInt8.toNat_inj.1 (by rw [hp, hq]; exact hpq)))
          clear hp0 hq0 hp hq hpq 
          go_wp2_with fail
          refine wp_region_still_lit (by kernel_rfl) (by kernel_rfl) ?_
          change wpStill _ _ (World.drew _) (fun a' => Exit.then _ _ _ a' (World.drew _)) _ _
          iterate 19 ((with_reducible refine wpStill_step ?_); intro K hK; go_simp; refine hK _ ?_; clear hK K)
          refine wpStill_nil ?_
          go_wp2
          go_roundg (a.size - (n + 1))
          case rel => exact ⟨n + 1, rfl, by go_num, by omega, by omega, by rw [HN.out, HE.out]; omega, HB.out.drew⟩
          case measure => omega
        · have e1 : ((p : Int) == q) = false := beq_eq_false_iff_ne.2 (by omega)
          have HE := Lib.hid (Df.ahead_ne P Q n (by rw [HA.out.2.1]; exact h1) (by rw [HA.out.2.2.1]; exact h2) (by rw [hp0, hq0]; intro e; exact hpq (by rw [← hp, ← hq, e])))
          clear hp0 hq0 hp hq hpq 
          go_wp2_with fail
          refine wp_region_still_lit (by kernel_rfl) (by kernel_rfl) ?_
          change wpStill _ _ (World.drew _) (fun a' => Exit.then _ _ _ a' (World.drew _)) _ _
          iterate 19 ((with_reducible refine wpStill_step ?_); intro K hK; go_simp; refine hK _ ?_; clear hK K)
          refine wpStill_nil ?_
          go_wp2
          go_ret
          exact ⟨by rw [HN.out, HE.out]; rfl, HB.out.drew⟩
      · have h2i : ¬ (n : Int) < b.size := by omega
        have HE := Lib.hid (Df.ahead_end2 P Q n (by rw [HA.out.2.2.1]; omega))
        go_wp2_with fail
        refine wp_region_still_lit (by kernel_rfl) (by kernel_rfl) ?_
        change wpStill _ _ (World.drew _) (fun a' => Exit.then _ _ _ a' (World.drew _)) _ _
        iterate 11 ((with_reducible refine wpStill_step ?_); intro K hK; go_simp; refine hK _ ?_; clear hK K)
        iterate 7 ((with_reducible refine wpStill_skip ?_ ?_); rfl; go_simp)
        iterate 1 ((with_reducible refine wpStill_step ?_); intro K hK; go_simp; refine hK _ ?_; clear hK K)
        refine wpStill_nil ?_
        go_wp2
        go_ret
        exact ⟨by rw [HN.out, HE.out]; rfl, HB.out.drew⟩
    · have h1i : ¬ (n : Int) < a.size := by omega
      have HE := Lib.hid (Df.ahead_end1 P Q n (by rw [HA.out.2.1]; omega))
      go_wp2_with fail
      refine wp_region_still_lit (by kernel_rfl) (by kernel_rfl) ?_
      change wpStill _ _ (World.drew _) (fun a' => Exit.then _ _ _ a' (World.drew _)) _ _
      iterate 5 ((with_reducible refine wpStill_step ?_); intro K hK; go_simp; refine hK _ ?_; clear hK K)
      iterate 4 ((with_reducible refine wpStill_skip ?_ ?_); rfl; go_simp)
      iterate 2 ((with_reducible refine wpStill_step ?_); intro K hK; go_simp; refine hK _ ?_; clear hK K)
      iterate 7 ((with_reducible refine wpStill_skip ?_ ?_); rfl; go_simp)
      iterate 1 ((with_reducible refine wpStill_step ?_); intro K hK; go_simp; refine hK _ ?_; clear hK K)
      refine wpStill_nil ?_
      go_wp2
      go_ret
      exact ⟨by rw [HN.out, HE.out]; rfl, HB.out.drew⟩

set_option maxHeartbeats 4000000 in
set_option maxRecDepth 100000 in
theorem behind_any (a b : ByteArray) (w : World) (ha : a.size ≤ 100000) (hb : b.size ≤ 100000) :
    Calls Try.prog 21 #[.string a, .string b] w fun e w' => e = .returned (.int .i64 (Df.behind (bl a) (bl b))) ∧ Below w.heap.size w w' := by
  obtain ⟨P, hP⟩ : ∃ P, (bl a).reverse = P := ⟨_, rfl⟩
  obtain ⟨Q, hQ⟩ : ∃ Q, (bl b).reverse = Q := ⟨_, rfl⟩
  obtain ⟨N, hN⟩ : ∃ N, Df.behind (bl a) (bl b) = N := ⟨_, rfl⟩
  rw [hN]
  have hN2 : Df.ahead P Q = N := by rw [← hN, ← hP, ← hQ]; rfl
  have hPg : ∀ n, (h : n < a.size) → P.getD n 0 = a[a.size - 1 - n]'(by clear hP hQ hN2 hN; omega) := fun n h => by rw [← hP]; exact getD_rev a n h
  have hQg : ∀ n, (h : n < b.size) → Q.getD n 0 = b[b.size - 1 - n]'(by omega) := fun n h => by rw [← hQ]; exact getD_rev b n h
  have hPl : P.length = a.size := by rw [← hP, List.length_reverse]; exact bl_length a
  have hQl : Q.length = b.size := by rw [← hQ, List.length_reverse]; exact bl_length b
  have HA := Lib.hid (And.intro hN2 (And.intro hPl (And.intro hQl (And.intro hPg hQg))))
  clear hN hN2 hP hQ hPl hQl hPg hQg
  go_enter Try.func21, Try.ntmps21
  go_wp2_with fail
  go_loopg [5] a.size (fun gk v wr => ∃ n : Nat, gk = a.size - n ∧ v = .int .i64 n ∧ n ≤ a.size ∧ n ≤ b.size ∧ N = n + Df.ahead (P.drop n) (Q.drop n) ∧ Below w.heap.size w wr)
  case atStart => exact ⟨0, rfl, rfl, Nat.zero_le _, Nat.zero_le _, by rw [List.drop_zero, List.drop_zero, HA.out.1]; omega, Below.refl _ _⟩
  case round =>
    obtain ⟨n, rfl, rfl, hna, hnb, hn, hbl⟩ := hrel
    have HB := Lib.hid hbl
    have HN := Lib.hid hn
    clear hbl hn
    by_cases h1 : n < a.size
    · have h1i : (n : Int) < a.size := by omega
      by_cases h2 : n < b.size
      · have h2i : (n : Int) < b.size := by omega
        have z0 : (0 : Int) ≤ n := by omega
        obtain ⟨i, hi⟩ : ∃ i, a.size - 1 - n = i := ⟨_, rfl⟩
        obtain ⟨j, hj⟩ : ∃ j, b.size - 1 - n = j := ⟨_, rfl⟩
        have hia : i < a.size := by omega
        have hjb : j < b.size := by omega
        have hp0 : P.getD n 0 = a[i] := by subst hi; exact HA.out.2.2.2.1 n h1
        have hq0 : Q.getD n 0 = b[j] := by subst hj; exact HA.out.2.2.2.2 n h2
        have wi1 : IntKind.i64.wrap ((a.size : Int) - 1) = (a.size : Int) - 1 := IntWalk.i64_in _ (by omega)
        have wj1 : IntKind.i64.wrap ((b.size : Int) - 1) = (b.size : Int) - 1 := IntWalk.i64_in _ (by omega)
        have wi : IntKind.i64.wrap ((a.size : Int) - 1 - n) = i := (IntWalk.i64_in _ (by omega)).trans (by omega)
        have wj : IntKind.i64.wrap ((b.size : Int) - 1 - n) = j := (IntWalk.i64_in _ (by omega)).trans (by omega)
        have zi : (0 : Int) ≤ i := by omega
        have zj : (0 : Int) ≤ j := by omega
        have iai : (i : Int) < a.size := by omega
        have jbi : (j : Int) < b.size := by omega
        obtain ⟨p, hp⟩ : ∃ p, a[i].toNat = p := ⟨_, rfl⟩
        obtain ⟨q, hq⟩ : ∃ q, b[j].toNat = q := ⟨_, rfl⟩
        have pi : (a[i].toNat : Int) = p := by rw [hp]
        have qi : (b[j].toNat : Int) = q := by rw [hq]
        by_cases hpq : p = q
        · have e1 : ((p : Int) == q) = true := by simp [hpq]
          have HE := Lib.hid (Df.ahead_eq P Q n (by rw [HA.out.2.1]; exact h1) (by rw [HA.out.2.2.1]; exact h2) (by rw [hp0, hq0]; exact UInt8.toNat_inj.1 (by rw [hp, hq]; exact hpq)))
          clear hp0 hq0 hp hq hpq hi hj 
          go_wp2_with fail
          refine wp_region_still_lit (by kernel_rfl) (by kernel_rfl) ?_
          change wpStill _ _ (World.drew _) (fun a' => Exit.then _ _ _ a' (World.drew _)) _ _
          iterate 27 ((with_reducible refine wpStill_step ?_); intro K hK; go_simp; refine hK _ ?_; clear hK K)
          refine wpStill_nil ?_
          go_wp2
          go_roundg (a.size - (n + 1))
          case rel => exact ⟨n + 1, rfl, by go_num, by omega, by omega, by rw [HN.out, HE.out]; omega, HB.out.drew⟩
          case measure => omega
        · have e1 : ((p : Int) == q) = false := beq_eq_false_iff_ne.2 (by omega)
          have HE := Lib.hid (Df.ahead_ne P Q n (by rw [HA.out.2.1]; exact h1) (by rw [HA.out.2.2.1]; exact h2) (by rw [hp0, hq0]; intro e; exact hpq (by rw [← hp, ← hq, e])))
          clear hp0 hq0 hp hq hpq hi hj 
          go_wp2_with fail
          refine wp_region_still_lit (by kernel_rfl) (by kernel_rfl) ?_
          change wpStill _ _ (World.drew _) (fun a' => Exit.then _ _ _ a' (World.drew _)) _ _
          iterate 27 ((with_reducible refine wpStill_step ?_); intro K hK; go_simp; refine hK _ ?_; clear hK K)
          refine wpStill_nil ?_
          go_wp2
          go_ret
          exact ⟨by rw [HN.out, HE.out]; rfl, HB.out.drew⟩
      · have h2i : ¬ (n : Int) < b.size := by omega
        have HE := Lib.hid (Df.ahead_end2 P Q n (by rw [HA.out.2.2.1]; omega))
        go_wp2_with fail
        refine wp_region_still_lit (by kernel_rfl) (by kernel_rfl) ?_
        change wpStill _ _ (World.drew _) (fun a' => Exit.then _ _ _ a' (World.drew _)) _ _
        iterate 11 ((with_reducible refine wpStill_step ?_); intro K hK; go_simp; refine hK _ ?_; clear hK K)
        iterate 15 ((with_reducible refine wpStill_skip ?_ ?_); rfl; go_simp)
        iterate 1 ((with_reducible refine wpStill_step ?_); intro K hK; go_simp; refine hK _ ?_; clear hK K)
        refine wpStill_nil ?_
        go_wp2
        go_ret
        exact ⟨by rw [HN.out, HE.out]; rfl, HB.out.drew⟩
    · have h1i : ¬ (n : Int) < a.size := by omega
      have HE := Lib.hid (Df.ahead_end1 P Q n (by rw [HA.out.2.1]; omega))
      go_wp2_with fail
      refine wp_region_still_lit (by kernel_rfl) (by kernel_rfl) ?_
      change wpStill _ _ (World.drew _) (fun a' => Exit.then _ _ _ a' (World.drew _)) _ _
      iterate 5 ((with_reducible refine wpStill_step ?_); intro K hK; go_simp; refine hK _ ?_; clear hK K)
      iterate 4 ((with_reducible refine wpStill_skip ?_ ?_); rfl; go_simp)
      iterate 2 ((with_reducible refine wpStill_step ?_); intro K hK; go_simp; refine hK _ ?_; clear hK K)
      iterate 15 ((with_reducible refine wpStill_skip ?_ ?_); rfl; go_simp)
      iterate 1 ((with_reducible refine wpStill_step ?_); intro K hK; go_simp; refine hK _ ?_; clear hK K)
      refine wpStill_nil ?_
      go_wp2
      go_ret
      exact ⟨by rw [HN.out, HE.out]; rfl, HB.out.drew⟩
end Go.Proofs.Ytcgaofndckiddaa.He
