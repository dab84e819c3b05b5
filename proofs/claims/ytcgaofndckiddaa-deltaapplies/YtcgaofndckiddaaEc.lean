/-
  Layer 9: the contract of the document's Apply.
-/
import Derived.Test.YtcgaofndckiddaaEb
namespace Go.Proofs.Ytcgaofndckiddaa.He
open Go.RowKit Hg
set_option linter.unusedVariables false

theorem bl_app (x y : ByteArray) : bl (x ++ y) = bl x ++ bl y := by simp [bl]
theorem drop_ne (s : ByteArray) (k : Nat) (h : k < s.size) : (bl s).drop k ≠ [] := by
  intro e
  have := congrArg List.length e
  rw [List.length_drop, bl_length, List.length_nil] at this
  omega
theorem drop_len (s : ByteArray) (k : Nat) : ((bl s).drop k).length = s.size - k := by rw [List.length_drop, bl_length]

/-- a text as the document's loop has made it -/
structure Mid (w wr : World) (b s : ByteArray) (M k : Nat) (X : ByteArray) : Prop where
  k2 : k ≤ s.size
  small : X.size ≤ M
  below : Below w.heap.size w wr
  goes : Df.goF (bl b) M [] ((bl s).drop 8) = Df.goF (bl b) M (bl X) ((bl s).drop k)

section
variable {b s : List UInt8} {M : Nat}
theorem ap_short (h : s.length < 8) : Df.applyF b s M = ([], 2) := by unfold Df.applyF; rw [if_pos h]
theorem ap_stale (h : ¬ s.length < 8) (h1 : Df.num s ≠ b.length) : Df.applyF b s M = ([], 13) := by unfold Df.applyF; rw [if_neg h, if_pos h1]
theorem ap_limit (h : ¬ s.length < 8) (h1 : Df.num s = b.length) (h2 : M < Df.num (s.drop 4)) : Df.applyF b s M = ([], 9) := by unfold Df.applyF; rw [if_neg h, if_neg (by simpa using h1), if_pos h2]
theorem ap_goes (h : ¬ s.length < 8) (h1 : Df.num s = b.length) (h2 : ¬ M < Df.num (s.drop 4)) : Df.applyF b s M = Df.goF b (Df.num (s.drop 4)) [] (s.drop 8) := by unfold Df.applyF; rw [if_neg h, if_neg (by simpa using h1), if_neg h2]
end

theorem rget (s : ByteArray) (k : Nat) (x : Int) (w : World) (hx : x = k) (hk : k + 4 ≤ s.size) (hs : s.size ≤ 100000) (N : Nat) (hN : Df.num ((bl s).drop k) = N) :
    Calls Try.prog 12 #[.string s, .int .i64 x] w fun e w' => e = .returned (.int .i64 N) ∧ Below w.heap.size w w' := by
  subst hx hN
  exact get_any s k w hk hs

set_option maxHeartbeats 4000000 in
set_option maxRecDepth 100000 in
theorem rapply_any (b s : ByteArray) (m : Int) (w : World) (hb : b.size ≤ 100000) (hs : s.size ≤ 100000) :
    Calls Try.prog 6 #[.string b, .string s, .int .i64 m] w fun e w' => e = .returned (ans (Df.applyF (bl b) (bl s) m.toNat)) ∧ Below w.heap.size w w' := by
  obtain ⟨L, hL⟩ : ∃ L, m.toNat = L := ⟨_, rfl⟩
  rw [hL]
  have HL := Lib.hid hL
  clear hL
  by_cases h8 : s.size < 8
  · have HE := Lib.hid (ap_short (b := bl b) (M := L) (show (bl s).length < 8 by rw [bl_length]; exact h8))
    have h8i : (s.size : Int) < 8 := by omega
    clear h8
    go_enter Try.func6, Try.ntmps6
    go_wp2
    go_ret2
    exact ⟨ans_no HE.out, Below.refl _ _⟩
  · have h8i : ¬ (s.size : Int) < 8 := by omega
    have h8l : ¬ (bl s).length < 8 := by rw [bl_length]; exact h8
    have hn0 : Df.num ((bl s).drop 0) = Df.num (bl s) := by rw [List.drop_zero]
    obtain ⟨B, hB⟩ : ∃ B, Df.num (bl s) = B := ⟨_, rfl⟩
    rw [hB] at hn0
    by_cases hst : B = b.size
    · obtain ⟨M, hM⟩ : ∃ M, Df.num ((bl s).drop 4) = M := ⟨_, rfl⟩
      have hM32 : M < 4294967296 := by rw [← hM]; exact Df.num_lt _
      have hbq : ((B : Int) == b.size) = true := by simp [hst]
      have HG0 := Lib.hid (fun w' => rget s 0 0 w' rfl (by omega) hs B hn0)
      have HG4 := Lib.hid (fun w' => rget s 4 4 w' rfl (by omega) hs M hM)
      have HM := Lib.hid hM
      have HSB := Lib.hid (And.intro hst hB)
      have H8L := Lib.hid h8l
      clear h8 hn0 hst hM h8l hB
      go_enter Try.func6, Try.ntmps6
      go_upto_if 26 with (go_at_call 12; first | (with_reducible refine (HG0.out _).mono ?_; rintro e w1 ⟨rfl, hb1⟩) | (with_reducible refine (HG4.out _).mono ?_; rintro e w2 ⟨rfl, hb2⟩))
      have HB0 := Lib.hid (hb1.trans (hb2.mono hb1.size))
      go_cut [2] (fun s2 wx => s2 = .int .i64 L ∧ Below w.heap.size w wx)
      case first =>
        by_cases h : m < 0
        · go_wp2
          go_meet
          exact ⟨by have := HL.out; rw [show L = 0 by omega]; rfl, HB0.out⟩
        · go_wp2
          go_meet
          exact ⟨by have := HL.out; rw [show m = (L : Int) by omega], HB0.out⟩
      case rest =>
        obtain ⟨rfl, hbc⟩ := hcut
        have HBC := Lib.hid hbc
        clear hbc
        by_cases hlim : L < M
        · have HE := Lib.hid (ap_limit (b := bl b) H8L.out (by rw [HSB.out.2, bl_length]; exact HSB.out.1) (by rw [HM.out]; exact hlim))
          have hl1 : (L : Int) < M := by omega
          clear hlim
          go_wp2
          go_ret2
          exact ⟨ans_no HE.out, HBC.out⟩
        · have HE := Lib.hid (ap_goes (b := bl b) H8L.out (by rw [HSB.out.2, bl_length]; exact HSB.out.1) (by rw [HM.out]; exact hlim))
          rw [HM.out] at HE
          have hl1 : ¬ (L : Int) < M := by omega
          clear hlim
          go_wp2
          clear hl1 h8i hbq
          go_loopg [9, 10] (s.size - 8) (fun gk v i wr => ∃ (k : Nat) (X : ByteArray), gk = s.size - k ∧ v = .string X ∧ i = .int .i64 k ∧ Mid w wr b s M k X)
          case atStart => exact ⟨8, ByteArray.empty, rfl, rfl, rfl, ⟨by have := H8L.out; rw [bl_length] at this; omega, Nat.zero_le _, HBC.out, rfl⟩⟩
          case round =>
            obtain ⟨k, X, rfl, rfl, rfl, hmid⟩ := hrel
            have hk2 := hmid.k2
            have hsm := hmid.small
            have HMID := Lib.hid hmid
            clear hmid
            by_cases hlt : k < s.size
            · have hki : (k : Int) < s.size := by omega
              have hk0 : (0 : Int) ≤ k := by omega
              have hg0 := getD_at s k 0 hlt
              obtain ⟨c, hc⟩ : ∃ c, s[k].toNat = c := ⟨_, rfl⟩
              have hgc : (((bl s).drop k).getD 0 0).toNat = c := by rw [hg0]; exact hc
              have ci : (s[k].toNat : Int) = c := by rw [hc]
              have HNE := Lib.hid (drop_ne s k hlt)
              have HGC := Lib.hid hgc
              have HLEN := Lib.hid (drop_len s k)
              clear hg0 hgc hc
              by_cases hc1 : c = 1
              · have c1 : ((c : Int) == 1) = true := by simp [hc1]
                have HGC1 := Lib.hid (HGC.out.trans hc1)
                by_cases hA : s.size < k + 9
                · have hA1 : (s.size : Int) < k + 9 := by omega
                  have HC := Lib.hid (Df.go_bad (M := M) (t := bl X) HNE.out (Df.one_short (b := bl b) HGC1.out (by rw [HLEN.out]; omega)) (by decide))
                  clear hA
                  go_wp2
                  go_ret2
                  exact ⟨ans_no (HE.out.trans (HMID.out.goes.trans HC.out)), HMID.out.below⟩
                · have hA1 : ¬ (s.size : Int) < k + 9 := by omega
                  have hnl : ¬ ((bl s).drop k).length < 9 := by rw [HLEN.out]; omega
                  have w9 : IntKind.i64.wrap ((k : Int) + 9) = (k : Int) + 9 := IntWalk.i64_in _ (by omega)
                  obtain ⟨k1, hk1⟩ : ∃ k1, k + 1 = k1 := ⟨_, rfl⟩
                  obtain ⟨k5, hk5⟩ : ∃ k5, k + 5 = k5 := ⟨_, rfl⟩
                  have w1 : IntKind.i64.wrap ((k : Int) + 1) = k1 := (IntWalk.i64_in _ (by omega)).trans (by omega)
                  have w5 : IntKind.i64.wrap ((k : Int) + 5) = k5 := (IntWalk.i64_in _ (by omega)).trans (by omega)
                  obtain ⟨p, hp⟩ : ∃ p, Df.num ((bl s).drop k1) = p := ⟨_, rfl⟩
                  obtain ⟨n, hn⟩ : ∃ n, Df.num ((bl s).drop k5) = n := ⟨_, rfl⟩
                  have hp32 : p < 4294967296 := by rw [← hp]; exact Df.num_lt _
                  have hn32 : n < 4294967296 := by rw [← hn]; exact Df.num_lt _
                  have hdp : Df.num (((bl s).drop k).drop 1) = p := by rw [List.drop_drop, hk1]; exact hp
                  have hdn : Df.num (((bl s).drop k).drop 5) = n := by rw [List.drop_drop, hk5]; exact hn
                  have HG1 := Lib.hid (fun w' => rget s k1 k1 w' rfl (by omega) hs p hp)
                  have HG5 := Lib.hid (fun w' => rget s k5 k5 w' rfl (by omega) hs n hn)
                  have wpn : IntKind.i64.wrap ((p : Int) + n) = (p : Int) + n := IntWalk.i64_in _ (by omega)
                  have wXn : IntKind.i64.wrap ((X.size : Int) + n) = (X.size : Int) + n := IntWalk.i64_in _ (by omega)
                  clear hA hp hn
                  by_cases hf : n = 0 ∨ b.size < p + n ∨ M < X.size + n
                  · have HC := Lib.hid (Df.go_bad (M := M) (t := bl X) HNE.out (Df.one_form (b := bl b) HGC1.out hnl (by rw [hdp, hdn, bl_length, bl_length]; exact hf)) (by decide))
                    clear hnl hdp hdn
                    by_cases hn0 : n = 0
                    · have n0 : ((n : Int) == 0) = true := by simp [hn0]
                      clear hn0 hf
                      go_wp2_with (go_at_call 12; first | (with_reducible refine (HG1.out _).mono ?_; rintro e w3 ⟨rfl, hb3⟩) | (with_reducible refine (HG5.out _).mono ?_; rintro e w4 ⟨rfl, hb4⟩))
                      go_ret2
                      exact ⟨ans_no (HE.out.trans (HMID.out.goes.trans HC.out)), (HMID.out.below.trans (hb3.mono HMID.out.below.size)).trans (hb4.mono (Nat.le_trans HMID.out.below.size hb3.size))⟩
                    · have n0 : ((n : Int) == 0) = false := beq_eq_false_iff_ne.2 (by omega)
                      by_cases hpb : b.size < p + n
                      · have pb : (b.size : Int) < (p : Int) + n := by omega
                        clear hn0 hf hpb
                        go_wp2_with (go_at_call 12; first | (with_reducible refine (HG1.out _).mono ?_; rintro e w3 ⟨rfl, hb3⟩) | (with_reducible refine (HG5.out _).mono ?_; rintro e w4 ⟨rfl, hb4⟩))
                        go_ret2
                        exact ⟨ans_no (HE.out.trans (HMID.out.goes.trans HC.out)), (HMID.out.below.trans (hb3.mono HMID.out.below.size)).trans (hb4.mono (Nat.le_trans HMID.out.below.size hb3.size))⟩
                      · have pb : ¬ (b.size : Int) < (p : Int) + n := by omega
                        have mx : (M : Int) < (X.size : Int) + n := by omega
                        clear hn0 hf hpb
                        go_wp2_with (go_at_call 12; first | (with_reducible refine (HG1.out _).mono ?_; rintro e w3 ⟨rfl, hb3⟩) | (with_reducible refine (HG5.out _).mono ?_; rintro e w4 ⟨rfl, hb4⟩))
                        go_ret2
                        exact ⟨ans_no (HE.out.trans (HMID.out.goes.trans HC.out)), (HMID.out.below.trans (hb3.mono HMID.out.below.size)).trans (hb4.mono (Nat.le_trans HMID.out.below.size hb3.size))⟩
                  · have HC := Lib.hid (Df.go_good (M := M) (t := bl X) HNE.out (Df.one_good (b := bl b) HGC1.out hnl (by rw [hdp, hdn, bl_length, bl_length]; exact hf)))
                    rw [Df.one_says HGC1.out, Df.one_size HGC1.out, hdp, hdn, List.drop_drop, ← bl_mid, ← bl_app] at HC
                    have n0 : ((n : Int) == 0) = false := beq_eq_false_iff_ne.2 (by omega)
                    have pb : ¬ (b.size : Int) < (p : Int) + n := by omega
                    have mx : ¬ (M : Int) < (X.size : Int) + n := by omega
                    have hsl := slice_mid b p (p + n) p ((p : Int) + n) rfl (by omega) (by omega) (by omega)
                    have hys : (b.extract p (p + n)).size = n := by rw [ByteArray.size_extract]; omega
                    have hXY : (X ++ b.extract p (p + n)).size = X.size + n := by rw [ByteArray.size_append, hys]
                    generalize b.extract p (p + n) = Y at *
                    have HXY := Lib.hid (show (X ++ Y).size ≤ M by omega)
                    have hcat : ¬ 9223372036854775807 < X.size + Y.size := by omega
                    clear hnl hdp hdn hf hys hXY
                    go_wp2_with (go_at_call 12; first | (with_reducible refine (HG1.out _).mono ?_; rintro e w3 ⟨rfl, hb3⟩) | (with_reducible refine (HG5.out _).mono ?_; rintro e w4 ⟨rfl, hb4⟩))
                    go_roundg (s.size - (k + 9))
                    case rel => exact ⟨k + 9, X ++ Y, rfl, rfl, by go_num, ⟨by omega, HXY.out, (HMID.out.below.trans (hb3.mono HMID.out.below.size)).trans (hb4.mono (Nat.le_trans HMID.out.below.size hb3.size)), by rw [HMID.out.goes, HC.out]⟩⟩
                    case measure => omega
              · have c1 : ((c : Int) == 1) = false := beq_eq_false_iff_ne.2 (by omega)
                by_cases hc2 : c = 2
                · have c2 : ((c : Int) == 2) = true := by simp [hc2]
                  have HGC2 := Lib.hid (HGC.out.trans hc2)
                  have w5 : IntKind.i64.wrap ((k : Int) + 5) = (k : Int) + 5 := IntWalk.i64_in _ (by omega)
                  by_cases hA : s.size < k + 5
                  · have hA1 : (s.size : Int) < k + 5 := by omega
                    have HC := Lib.hid (Df.go_bad (M := M) (t := bl X) HNE.out (Df.two_short (b := bl b) HGC2.out (.inl (by rw [HLEN.out]; omega))) (by decide))
                    clear hA
                    go_wp2
                    go_ret2
                    exact ⟨ans_no (HE.out.trans (HMID.out.goes.trans HC.out)), HMID.out.below⟩
                  · have hA1 : ¬ (s.size : Int) < k + 5 := by omega
                    obtain ⟨k1, hk1⟩ : ∃ k1, k + 1 = k1 := ⟨_, rfl⟩
                    have w1 : IntKind.i64.wrap ((k : Int) + 1) = k1 := (IntWalk.i64_in _ (by omega)).trans (by omega)
                    obtain ⟨n, hn⟩ : ∃ n, Df.num ((bl s).drop k1) = n := ⟨_, rfl⟩
                    have hn32 : n < 4294967296 := by rw [← hn]; exact Df.num_lt _
                    have hdn : Df.num (((bl s).drop k).drop 1) = n := by rw [List.drop_drop, hk1]; exact hn
                    have HG1 := Lib.hid (fun w' => rget s k1 k1 w' rfl (by omega) hs n hn)
                    have wk : IntKind.i64.wrap ((k : Int) + 5 + n) = (k : Int) + 5 + n := IntWalk.i64_in _ (by omega)
                    have wXn : IntKind.i64.wrap ((X.size : Int) + n) = (X.size : Int) + n := IntWalk.i64_in _ (by omega)
                    clear hn
                    by_cases hB : s.size < k + 5 + n
                    · have hB1 : (s.size : Int) < (k : Int) + 5 + n := by omega
                      have HC := Lib.hid (Df.go_bad (M := M) (t := bl X) HNE.out (Df.two_short (b := bl b) HGC2.out (.inr (by rw [HLEN.out, hdn]; omega))) (by decide))
                      clear hA hB hdn
                      go_wp2_with (go_at_call 12; refine (HG1.out _).mono ?_; rintro e w3 ⟨rfl, hb3⟩)
                      go_ret2
                      exact ⟨ans_no (HE.out.trans (HMID.out.goes.trans HC.out)), HMID.out.below.trans (hb3.mono HMID.out.below.size)⟩
                    · have hB1 : ¬ (s.size : Int) < (k : Int) + 5 + n := by omega
                      have hnl : ¬ (((bl s).drop k).length < 5 ∨ ((bl s).drop k).length < 5 + Df.num (((bl s).drop k).drop 1)) := by rw [HLEN.out, hdn]; omega
                      by_cases hf : n = 0 ∨ M < X.size + n
                      · have HC := Lib.hid (Df.go_bad (M := M) (t := bl X) HNE.out (Df.two_form (b := bl b) HGC2.out hnl (by rw [hdn, bl_length]; exact hf)) (by decide))
                        clear hnl hdn hA hB
                        by_cases hn0 : n = 0
                        · have n0 : ((n : Int) == 0) = true := by simp [hn0]
                          clear hn0 hf
                          go_wp2_with (go_at_call 12; refine (HG1.out _).mono ?_; rintro e w3 ⟨rfl, hb3⟩)
                          go_ret2
                          exact ⟨ans_no (HE.out.trans (HMID.out.goes.trans HC.out)), HMID.out.below.trans (hb3.mono HMID.out.below.size)⟩
                        · have n0 : ((n : Int) == 0) = false := beq_eq_false_iff_ne.2 (by omega)
                          have mx : (M : Int) < (X.size : Int) + n := by omega
                          clear hn0 hf
                          go_wp2_with (go_at_call 12; refine (HG1.out _).mono ?_; rintro e w3 ⟨rfl, hb3⟩)
                          go_ret2
                          exact ⟨ans_no (HE.out.trans (HMID.out.goes.trans HC.out)), HMID.out.below.trans (hb3.mono HMID.out.below.size)⟩
                      · have HC := Lib.hid (Df.go_good (M := M) (t := bl X) HNE.out (Df.two_good (b := bl b) HGC2.out hnl (by rw [hdn, bl_length]; exact hf)))
                        rw [Df.two_says HGC2.out, Df.two_size HGC2.out, hdn, List.drop_drop, List.drop_drop, ← bl_mid, ← bl_app] at HC
                        have n0 : ((n : Int) == 0) = false := beq_eq_false_iff_ne.2 (by omega)
                        have mx : ¬ (M : Int) < (X.size : Int) + n := by omega
                        have hsl := slice_mid s (k + 5) (k + 5 + n) ((k : Int) + 5) ((k : Int) + 5 + n) (by omega) (by omega) (by omega) (by omega)
                        have hys : (s.extract (k + 5) (k + 5 + n)).size = n := by rw [ByteArray.size_extract]; omega
                        have hXY : (X ++ s.extract (k + 5) (k + 5 + n)).size = X.size + n := by rw [ByteArray.size_append, hys]
                        generalize s.extract (k + 5) (k + 5 + n) = Y at *
                        have HXY := Lib.hid (show (X ++ Y).size ≤ M by omega)
                        have hcat : ¬ 9223372036854775807 < X.size + Y.size := by omega
                        clear hnl hdn hf hys hXY hA hB
                        go_wp2_with (go_at_call 12; refine (HG1.out _).mono ?_; rintro e w3 ⟨rfl, hb3⟩)
                        go_roundg (s.size - (k + (5 + n)))
                        case rel => exact ⟨k + (5 + n), X ++ Y, rfl, rfl, by go_num, ⟨by omega, HXY.out, HMID.out.below.trans (hb3.mono HMID.out.below.size), by rw [HMID.out.goes, HC.out]⟩⟩
                        case measure => omega
                · have c2 : ((c : Int) == 2) = false := beq_eq_false_iff_ne.2 (by omega)
                  have b1 : ((c : Int) != 1) = true := by simp; omega
                  have b2 : ((c : Int) != 2) = true := by simp; omega
                  have HC := Lib.hid (Df.go_bad (M := M) (t := bl X) HNE.out (Df.no_kind (b := bl b) (by rw [HGC.out]; exact hc1) (by rw [HGC.out]; exact hc2)) (by decide))
                  go_wp2
                  go_ret2
                  exact ⟨ans_no (HE.out.trans (HMID.out.goes.trans HC.out)), HMID.out.below⟩
            · obtain rfl : k = s.size := by omega
              have hki : ¬ (s.size : Int) < s.size := by omega
              have hnil : (bl s).drop s.size = [] := List.drop_of_length_le (by rw [bl_length]; exact Nat.le_refl _)
              by_cases hX : X.size < M
              · have HC := Lib.hid (Df.go_short (b := bl b) (M := M) (t := bl X) (by rw [bl_length]; exact hX))
                have x1 : ((X.size : Int) == M) = false := beq_eq_false_iff_ne.2 (by omega)
                have HNIL := Lib.hid hnil
                clear hX hnil
                go_wp2
                go_ret2
                exact ⟨ans_no (HE.out.trans (HMID.out.goes.trans (by rw [HNIL.out]; exact HC.out))), HMID.out.below⟩
              · have HC := Lib.hid (Df.go_end (b := bl b) (M := M) (t := bl X) (by rw [bl_length]; exact hX))
                have x1 : ((X.size : Int) == M) = true := by simp; omega
                have HNIL := Lib.hid hnil
                clear hX hnil
                go_wp2
                go_ret2
                exact ⟨by rw [show X = str (bl X) from (str_bl X).symm]; exact ans_mk (HE.out.trans (HMID.out.goes.trans (by rw [HNIL.out]; exact HC.out))), HMID.out.below⟩
    · have HE := Lib.hid (ap_stale (b := bl b) (M := L) h8l (by rw [hB, bl_length]; exact hst))
      have hbq : ((B : Int) == b.size) = false := beq_eq_false_iff_ne.2 (by omega)
      have HG0 := Lib.hid (fun w' => rget s 0 0 w' rfl (by omega) hs B hn0)
      clear h8 h8l hn0 hst hB
      go_enter Try.func6, Try.ntmps6
      go_wp2_with (go_at_call 12; refine (HG0.out _).mono ?_; rintro e w3 ⟨rfl, hb3⟩)
      go_ret2
      exact ⟨ans_no HE.out, hb3⟩
end Go.Proofs.Ytcgaofndckiddaa.He
