/-
  All of a text: run, Press (layer 8).
-/
import Derived.Test.YtepndjlgjaeonaaGl
namespace Go.Proofs.Ytepndjlgjaeonaa.Hg
open Go.RowKit Hw
set_option linter.unusedVariables false

section
variable {w : World} {B b m n : Nat} {s : ByteArray} {D : DataW Unit} {t : List UInt8}
theorem PrSt.c0 (h : PrSt w B b m s n D t) : w.cell? ⟨b, 0, none⟩ = some (.string s) := by
  obtain ⟨A, c, cs, h1, h2⟩ := h
  exact h1.c0
theorem PrSt.top (h : PrSt w B b m s n D t) : B ≤ w.heap.size := by
  obtain ⟨A, c, cs, h1, h2⟩ := h
  exact Nat.le_trans h1.hb (Nat.le_of_lt h1.lt)
theorem find_st (h : PrSt w B b m s n D t) (k : Nat) (hk : k < s.size) (hs : s.size ≤ 100000) (hi : KI D s k k) :
    Calls Try.prog 14 #[.pointer (some ⟨b, 0, none⟩), .int .i64 k] w fun r w' => ∃ L d : Nat, r = .returned (.tuple #[.int .i64 L, .int .i64 d]) ∧ (PrSt w' B b m s n D t ∧ Below B w w') ∧ (L = 0 ∨ Again s k L d) := by
  have htop := h.top
  obtain ⟨A, c, cs, h1, h2⟩ := h
  refine (find_any w B b m s n D A c _ h1 k hk hs hi).mono fun r w' hr => ?_
  obtain ⟨L, d, e, hb, ho⟩ := hr
  exact ⟨L, d, e, ⟨⟨A, c, cs, h1.below hb, h2⟩, hb.mono htop⟩, ho⟩
theorem pass_st (h : PrSt w B b m s n D t) (k : Nat) (hk : k < s.size) (hs : s.size ≤ 100000) (hn : n ≤ 1000000) (hi : KI D s k k) :
    Calls Try.prog 15 #[.pointer (some ⟨b, 0, none⟩), .int .i64 k] w fun r w' => r = .returned (.tuple #[]) ∧ Below B w w' ∧ ∃ n' D', n' ≤ n + 1 ∧ PrSt w' B b m s n' D' t ∧ KI D' s (k + 1) (k + 1) := by
  obtain ⟨A, c, cs, h1, h2⟩ := h
  refine (pass_any w B b m s n D A c _ h1 k hk hs hn hi).mono fun r w' hr => ?_
  obtain ⟨e, hb, n', D', hn', hp, hi'⟩ := hr
  exact ⟨e, hb, n', D', hn', ⟨A, c, cs, hp, h2⟩, hi'⟩
end
theorem take_mid (s : ByteArray) (a b : Nat) (h : a ≤ b) : (bl s).take a ++ bl (s.extract a b) = (bl s).take b := by
  obtain ⟨j, rfl⟩ : ∃ j, b = a + j := ⟨b - a, by omega⟩
  rw [bl_mid, List.take_add]
theorem take_end (s : ByteArray) (a : Nat) : (bl s).take a ++ bl (s.extract a s.size) = bl s := by
  rw [bl_drop, List.take_append_drop]
theorem again_take {s : ByteArray} {k L d : Nat} (h : Again s k L d) : Sq.agn L d ((bl s).take k) = (bl s).take (k + L) := by
  obtain ⟨h1, h2, h3, h4, h5, h6, h7⟩ := h
  have := Sq.agn_take (bl s) k (k - d) L (by omega) (by rw [bl_length]; exact h6) h7
  rwa [show k - (k - d) = d by omega] at this

set_option maxHeartbeats 4000000 in
set_option maxRecDepth 100000 in
theorem run_any (w : World) (B b m : Nat) (s : ByteArray) (n : Nat) (D : DataW Unit) (h : PrSt w B b m s n D []) (hn : n = 0) (hs : s.size ≤ 100000) (hi : KI D s 0 0) :
    Calls Try.prog 12 #[.pointer (some ⟨b, 0, none⟩)] w fun r w' => r = .returned (.tuple #[]) ∧ (∃ n' D', PrSt w' B b m s n' D' (bl s)) ∧ Below B w w' := by
  have HP := Lib.hid h
  have HI := Lib.hid hi
  clear h hi
  subst hn
  go_enter Try.func12, Try.ntmps12
  go_wp2_with fail
  go_loopg [2, 3] s.size (fun gk v2 v3 wx => ∃ (T K n1 : Nat) (D1 : DataW Unit), gk = s.size - K ∧ T ≤ K ∧ K ≤ s.size ∧ v2 = .int .i64 T ∧ v3 = .int .i64 K ∧ PrSt wx B b m s n1 D1 ((bl s).take T) ∧ KI D1 s K K ∧ n1 ≤ K ∧ Below B w wx)
  case atStart => exact ⟨0, 0, 0, D, rfl, Nat.le_refl _, Nat.zero_le _, rfl, rfl, HP.out, HI.out, Nat.le_refl _, Below.refl _ _⟩
  case round =>
    obtain ⟨T, K, n1, D1, rfl, hTK, hKs, rfl, rfl, hst, hki, hn1, hbl⟩ := hrel
    have c0 := hst.c0
    have hlT : ((bl s).take T).length = T := by rw [List.length_take, bl_length]; omega
    by_cases hlt : K < s.size
    · have hli : (K : Int) < s.size := by omega
      have HF := Lib.hid (find_st hst K hlt hs hki)
      have HK := Lib.hid hki
      have HB := Lib.hid hbl
      clear hst hki hbl
      go_upto_if 20 with (go_at_call 14; refine HF.out.mono ?_; rintro e w1 ⟨L, d, rfl, hp1, hor⟩; have HP1 := Lib.hid (And.intro hp1.1 (HB.out.trans hp1.2)); have HOR := Lib.hid hor; clear hp1 hor HF c0)
      by_cases hL : L = 0
      · have hLb : ((L : Int) == 0) = true := by simp [hL]
        have HPS := Lib.hid (pass_st HP1.out.1 K hlt hs (by omega) HK.out)
        clear hL HOR
        go_wp2_with (go_at_call 15; refine HPS.out.mono ?_; rintro e w2 ⟨rfl, hb2, n2, D2, hn2, hp2, hk2⟩; have HP2 := Lib.hid (And.intro hp2 (And.intro hk2 (And.intro (HP1.out.2.trans hb2) hn2))); clear hb2 hn2 hp2 hk2 HPS)
        go_roundg (s.size - (K + 1))
        case rel => exact ⟨T, K + 1, n2, D2, rfl, by omega, by omega, rfl, by go_num, HP2.out.1, HP2.out.2.1, by have := HP2.out.2.2.2; omega, HP2.out.2.2.1⟩
        case measure => omega
      · have hLb : ((L : Int) == 0) = false := beq_eq_false_iff_ne.2 (by omega)
        have hag := HOR.out.resolve_left hL
        have c0 := HP1.out.1.c0
        have hsl := slice_mid s T K (T : Int) (K : Int) rfl rfl hTK hKs
        have hsz : (s.extract T K).size ≤ s.size := by rw [ByteArray.size_extract]; omega
        have htm := take_mid s T K hTK
        have HAG := Lib.hid hag
        have HAT := Lib.hid (again_take hag)
        have hLp : 1 ≤ L := by have := hag.1; omega
        have hLs : K + L ≤ s.size := hag.2.2.2.2.2.1
        have HTM := Lib.hid htm
        have HT1 := Lib.hid (fun x => tell_any w1 B b m s n1 D1 _ HP1.out.1 x)
        have HLT := Lib.hid hlT
        clear hL HOR hag htm hlT
        generalize s.extract T K = X at *
        go_wp2_with (first
          | (go_at_call 16; refine (HT1.out X (by have := HLT.out; omega)).mono ?_; rintro e w2 ⟨rfl, hp2, hb2⟩; rw [HTM.out] at hp2; have HP2 := Lib.hid (And.intro hp2 (HP1.out.2.trans hb2)); clear hp2 hb2 HT1 c0)
          | (go_at_call 17; refine (tellAgain_any w2 B b m s n1 D1 _ HP2.out.1 L d HAG.out.1 HAG.out.2.1 HAG.out.2.2.1 HAG.out.2.2.2.1 (by have := HAG.out.2.2.2.2.1; rw [List.length_take, bl_length]; omega) (by rw [List.length_take, bl_length]; omega)).mono ?_; rintro e w3 ⟨rfl, hp3, hb3⟩; rw [HAT.out] at hp3; have HP3 := Lib.hid (And.intro hp3 (HP2.out.2.trans hb3)); clear hp3 hb3))
        go_loopg [3, 40] L (fun gk v3 i wx => ∃ (j n2 : Nat) (D2 : DataW Unit), j ≤ L ∧ gk = L - j ∧ v3 = .int .i64 ((K + j : Nat) : Int) ∧ i = .int .i64 j ∧ PrSt wx B b m s n2 D2 ((bl s).take (K + L)) ∧ KI D2 s (K + j) (K + j) ∧ n2 ≤ K + j ∧ Below B w wx)
        case atStart => exact ⟨0, n1, D1, Nat.zero_le _, rfl, rfl, rfl, HP3.out.1, HK.out, hn1, HP3.out.2⟩
        case round =>
          obtain ⟨j, n2, D2, hj, rfl, rfl, rfl, hst2, hki2, hn2, hbl2⟩ := hrel
          obtain ⟨Q, hQ⟩ : ∃ Q, K + j = Q := ⟨_, rfl⟩
          rw [hQ] at hki2 hn2
          rw [hQ]
          by_cases hjL : j < L
          · have hji : (j : Int) < L := by omega
            have HPS := Lib.hid (pass_st hst2 Q (by omega) hs (by omega) hki2)
            have hwQ : IntKind.i64.wrap ((Q : Int) + 1) = (Q : Int) + 1 := IntWalk.i64_in _ (by omega)
            have HQ := Lib.hid (And.intro hQ hbl2)
            clear hst2 hki2 hbl2 hQ
            go_wp2_with (go_at_call 15; refine HPS.out.mono ?_; rintro e w4 ⟨rfl, hb4, n4, D4, hn4, hp4, hk4⟩; have HP4 := Lib.hid (And.intro hp4 (And.intro hk4 (And.intro (HQ.out.2.trans hb4) hn4))); clear hb4 hn4 hp4 hk4 HPS)
            go_roundg (L - (j + 1))
            case rel =>
              have e9 : K + (j + 1) = Q + 1 := by have := HQ.out.1; omega
              exact ⟨j + 1, n4, D4, by omega, rfl, by rw [e9]; exact congrArg (Value.int .i64) (by omega), by go_num, HP4.out.1, by rw [e9]; exact HP4.out.2.1, by have := HP4.out.2.2.2; omega, HP4.out.2.2.1⟩
            case measure => omega
          · obtain rfl : j = L := by omega
            have hji : ¬ (j : Int) < j := by omega
            subst hQ
            have HQ := Lib.hid (And.intro hst2 (And.intro hki2 hbl2))
            clear hst2 hki2 hbl2
            go_wp2
            go_roundg (s.size - (K + j))
            case rel => exact ⟨K + j, K + j, n2, D2, rfl, Nat.le_refl _, hLs, rfl, rfl, HQ.out.1, HQ.out.2.1, hn2, HQ.out.2.2⟩
            case measure => omega
    · obtain rfl : K = s.size := by omega
      have hli : ¬ (s.size : Int) < s.size := by omega
      have hsl := slice_from s T (T : Int) rfl hTK
      have hsz : (s.extract T s.size).size ≤ s.size := by rw [ByteArray.size_extract]; omega
      have HTE := Lib.hid (take_end s T)
      have HT1 := Lib.hid (fun x => tell_any wr B b m s n1 D1 _ hst x)
      have HB := Lib.hid hbl
      have HLT := Lib.hid hlT
      clear hst hki hbl hlT
      generalize s.extract T s.size = X at *
      go_wp2_with (go_at_call 16; refine (HT1.out X (by have := HLT.out; omega)).mono ?_; rintro e w2 ⟨rfl, hp2, hb2⟩; rw [HTE.out] at hp2; have HP2 := Lib.hid (And.intro hp2 (HB.out.trans hb2)); clear hp2 hb2 HT1 c0)
      go_end0
      exact ⟨rfl, ⟨n1, D1, HP2.out.1⟩, HP2.out.2⟩
end Go.Proofs.Ytepndjlgjaeonaa.Hg
