/-
  Proved: CrcSealed returns true for every text and every cut, and changes nothing that was there.
  Conditions: none beside the row's own.
-/
import Derived.Test.YtkaniccmdjbkdaaCf
import Derived.Test.YtkaniccmdjbkdaaP
import Derived.Test.YtkaniccmdjbkdaaFork
namespace Go.Proofs.Ytkaniccmdjbkdaa.crcSealed
open Go.ChangeShapes Go.WideShapes Go.ChangeAt Go.RowKit
open Go.ChangeMaps (open_string)
set_option linter.unusedVariables false

open Hs Hc
/-- a slice of strings that was laid in the call -/
structure Sl (W : World) (g : Nat) (ss : List ByteArray) : Prop where
  strs : Strs W (g + 1) (some ⟨g, 0, none⟩) ss
  lt : g < W.heap.size
theorem Sl.below {W W' : World} {g : Nat} {ss : List ByteArray} (h : Sl W g ss) (hb : Below W.heap.size W W') : Sl W' g ss := ⟨h.strs.below (hb.mono h.lt), Nat.lt_of_lt_of_le h.lt hb.size⟩
theorem Sl.lay1 (W : World) (s : ByteArray) : Sl (W.alloc (.cells #[.string s] 9)) W.heap.size [s] := ⟨strs1 W s, by simp⟩
theorem Sl.lay2 (W : World) (s t : ByteArray) : Sl (W.alloc (.cells #[.string s, .string t] 9)) W.heap.size [s, t] := ⟨strs2 W s t, by simp⟩
/-- the orders of the last line's operations -/
def orders : Tr := .take 0 0 (.take 1 1 (.call 2 3 (.take 3 7 (.take 4 15 (.take 5 31 (.take 6 63 (.take 7 127 (.take 8 255 (.take 9 511 (.take 10 1023 (.take 11 2047 (.take 12 4095 (.take 13 8191 (.take 14 16383 (.take 15 32767 (.take 16 65535 (.take 17 131071 (.take 18 262143 (.take 21 524287 (.take 22 2621439 (.take 23 6815743 (.take 26 15204351 (.take 27 82313215 (.take 28 216530943 (.fork 19 24 484966399 (.fork 20 24 485490687 (.call 24 486539263 (.call 25 503316479 (.call 29 536870911 (.take 30 1073741823 (.take 31 2147483647 (.take 32 4294967295 (.take 33 8589934591 (.take 34 17179869183 (.take 35 34359738367 (.take 36 68719476735 (.take 37 137438953471 (.take 38 274877906943 (.take 41 549755813887 (.fork 39 42 2748779069439 (.fork 40 42 3298534883327 (.call 42 4398046511103 (.call 43 8796093022207 (.take 44 17592186044415 (.take 45 35184372088831 (.take 46 70368744177663 (.done)))))) (.call 40 7696581394431 (.call 43 8796093022207 (.take 44 17592186044415 (.take 45 35184372088831 (.take 46 70368744177663 (.done))))))) (.call 39 7146825580543 (.call 40 7696581394431 (.call 43 8796093022207 (.take 44 17592186044415 (.take 45 35184372088831 (.take 46 70368744177663 (.done))))))))))))))))))))) (.call 20 502267903 (.call 25 503316479 (.call 29 536870911 (.take 30 1073741823 (.take 31 2147483647 (.take 32 4294967295 (.take 33 8589934591 (.take 34 17179869183 (.take 35 34359738367 (.take 36 68719476735 (.take 37 137438953471 (.take 38 274877906943 (.take 41 549755813887 (.fork 39 42 2748779069439 (.fork 40 42 3298534883327 (.call 42 4398046511103 (.call 43 8796093022207 (.take 44 17592186044415 (.take 45 35184372088831 (.take 46 70368744177663 (.done)))))) (.call 40 7696581394431 (.call 43 8796093022207 (.take 44 17592186044415 (.take 45 35184372088831 (.take 46 70368744177663 (.done))))))) (.call 39 7146825580543 (.call 40 7696581394431 (.call 43 8796093022207 (.take 44 17592186044415 (.take 45 35184372088831 (.take 46 70368744177663 (.done)))))))))))))))))))))) (.call 19 501743615 (.call 20 502267903 (.call 25 503316479 (.call 29 536870911 (.take 30 1073741823 (.take 31 2147483647 (.take 32 4294967295 (.take 33 8589934591 (.take 34 17179869183 (.take 35 34359738367 (.take 36 68719476735 (.take 37 137438953471 (.take 38 274877906943 (.take 41 549755813887 (.fork 39 42 2748779069439 (.fork 40 42 3298534883327 (.call 42 4398046511103 (.call 43 8796093022207 (.take 44 17592186044415 (.take 45 35184372088831 (.take 46 70368744177663 (.done)))))) (.call 40 7696581394431 (.call 43 8796093022207 (.take 44 17592186044415 (.take 45 35184372088831 (.take 46 70368744177663 (.done))))))) (.call 39 7146825580543 (.call 40 7696581394431 (.call 43 8796093022207 (.take 44 17592186044415 (.take 45 35184372088831 (.take 46 70368744177663 (.done)))))))))))))))))))))))))))))))))))))))))))))))

set_option maxHeartbeats 8000000 in
set_option maxRecDepth 100000 in
theorem walk (s : ByteArray) (cut : Int) (hsm : s.size ≤ maxLen) (hcw : (Lit.int .i64 cut).wf = true) (w : World) : Calls Try.prog 4 #[.string s, .int .i64 cut] w fun e w' => e = .returned (.bool true) ∧ Below w.heap.size w w' := by
  go_enter Try.func4, Try.ntmps4
  go_wp2_with fail
  refine (Hc.awake_any _).mono ?_
  rintro e1 w1 ⟨rfl, hb1⟩
  by_cases hg : s.size ≤ 2000 ∧ 0 ≤ cut ∧ cut ≤ s.size
  · obtain ⟨hs2, hc0, hcs⟩ := hg
    have h1 : ¬ (2000 : Int) < s.size := by omega
    have h2 : ¬ cut < 0 := by omega
    have h3 : ¬ (s.size : Int) < cut := by omega
    obtain ⟨c, rfl⟩ : ∃ c : Nat, cut = c := ⟨cut.toNat, by omega⟩
    have hle : c ≤ s.size := by omega
    have hto := slice_to s c hle
    have hfr := slice_from s c hle
    have hcat : bl (s.extract 0 c) ++ bl (s.extract c s.size) = bl s := by rw [bl_take, bl_drop, List.take_append_drop]
    have hzA : (s.extract 0 c).size ≤ 100000 := by rw [ByteArray.size_extract]; omega
    have hzB : (s.extract c s.size).size ≤ 100000 := by rw [ByteArray.size_extract]; omega
    generalize s.extract 0 c = A at *
    generalize s.extract c s.size = B at *
    have ES := Lib.hid (fun W => seal_any s W (by omega))
    have OZ := Lib.hid (fun W => open_sealed s W (by omega))
    have hzZ := sealed_size s
    have S1 := Lib.hid (fun (W : World) (g : Nat) (h : Strs W (g + 1) (some ⟨g, 0, none⟩) [s]) (hg : g < W.heap.size) => sum_strs1 (c := 1) h hg (by omega))
    have SA := Lib.hid (fun (W : World) (g : Nat) (h : Strs W (g + 1) (some ⟨g, 0, none⟩) [A]) (hg : g < W.heap.size) => sum_strs1 (c := 1) h hg hzA)
    have S2 := Lib.hid (fun (W : World) (g : Nat) (h : Strs W (g + 1) (some ⟨g, 0, none⟩) [A, B]) (hg : g < W.heap.size) => show Calls _ _ _ _ fun e' w' => e' = .returned (.int .u32 (tn (Cr.sum (bl s)))) ∧ _ from by have h := sum_strs2 (c := 2) h hg hzA hzB; rw [hcat] at h; exact h)
    have MB := Lib.hid (fun W => show Calls _ _ _ _ fun e' w' => e' = .returned (.int .u32 (tn (Cr.sum (bl s)))) ∧ _ from by have h := more_any (Cr.sum (bl A)) B W hzB; rw [Cr.more_sum, hcat] at h; exact h)
    generalize str (Cr.sealed (bl s)) = Z at *
    have EZ := Lib.hid (fun W => seal_any Z W (by omega))
    have OZZ := Lib.hid (fun W => open_sealed Z W (by omega))
    generalize str (Cr.sealed (bl Z)) = ZZ at *
    generalize Cr.sum (bl s) = X at *
    generalize Cr.sum (bl A) = XA at *
    clear hcat hzA hzB hzZ hcw hsm
    have hqZ := str_beq (rfl : Z = Z)
    have hqs := str_beq (rfl : s = s)
    go_wp2_with fail
    refine (ES.out _).mono ?_
    rintro e w2 ⟨rfl, hb2⟩
    have hb02 := hb1.trans (hb2.mono hb1.size)
    clear hb1 hb2
    go_wp2_with fail
    refine (EZ.out _).mono ?_
    rintro e w3 ⟨rfl, hb3⟩
    have hb03 := hb02.trans (hb3.mono hb02.size)
    clear hb02 hb3
    go_wp2_with fail
    refine (OZZ.out _).mono ?_
    rintro e w4 ⟨rfl, hb4⟩
    have hb04 := hb03.trans (hb4.mono hb03.size)
    clear hb03 hb4
    go_wp2_with fail
    refine (OZ.out _).mono ?_
    rintro e w5 ⟨rfl, hb5⟩
    have hb05 := hb04.trans (hb5.mono hb04.size)
    clear hb04 hb5 OZ OZZ EZ
    go_wp2_with fail
    refine wp_region_tree (fun W => Below w.heap.size w W) orders 47 (by kernel_rfl) (by kernel_rfl) (by kernel_rfl) (fun d _ _ _ _ h => by cases d <;> exact h) (by kernel_rfl) hb05.drew ?_
    have hS := hb05.drew
    clear hb05
    generalize w5.drew = W0 at *
    unfold orders
    refine trH_take (.string Z) rfl (Or.inl ⟨by rfl, fun W _ => by go_simp⟩) ?_
    go_simp
    refine trH_take (.string s) rfl (Or.inl ⟨by rfl, fun W _ => by go_simp⟩) ?_
    go_simp
    refine trH_call rfl (by rfl) (fun K hK => ?_)
    have HK := Lib.hid hK
    clear hK
    go_simp
    refine (ES.out _).mono ?_
    rintro e W1 ⟨rfl, hb⟩
    replace hS := hS.trans (hb.mono hS.size)
    clear hb
    refine HK.out _ _ hS ?_
    clear HK K
    go_simp
    refine trH_take (.bool true) rfl (Or.inl ⟨by rfl, fun W _ => by go_simp⟩) ?_
    go_simp
    refine trH_take (.bool true) rfl (Or.inl ⟨by rfl, fun W _ => by go_simp⟩) ?_
    go_simp
    refine trH_take (.int .i64 0) rfl (Or.inl ⟨by rfl, fun W _ => by go_simp⟩) ?_
    go_simp
    refine trH_take (.bool true) rfl (Or.inl ⟨by rfl, fun W _ => by go_simp⟩) ?_
    go_simp
    refine trH_take (.bool true) rfl (Or.inl ⟨by rfl, fun W _ => by go_simp⟩) ?_
    go_simp
    refine trH_take (.bool true) rfl (Or.inl ⟨by rfl, fun W _ => by go_simp⟩) ?_
    go_simp
    refine trH_take (.string s) rfl (Or.inl ⟨by rfl, fun W _ => by go_simp⟩) ?_
    go_simp
    refine trH_take (.string s) rfl (Or.inl ⟨by rfl, fun W _ => by go_simp⟩) ?_
    go_simp
    refine trH_take (.bool true) rfl (Or.inl ⟨by rfl, fun W _ => by go_simp⟩) ?_
    go_simp
    refine trH_take (.bool true) rfl (Or.inl ⟨by rfl, fun W _ => by go_simp⟩) ?_
    go_simp
    refine trH_take (.bool true) rfl (Or.inl ⟨by rfl, fun W _ => by go_simp⟩) ?_
    go_simp
    refine trH_take (.int .i64 0) rfl (Or.inl ⟨by rfl, fun W _ => by go_simp⟩) ?_
    go_simp
    refine trH_take (.bool true) rfl (Or.inl ⟨by rfl, fun W _ => by go_simp⟩) ?_
    go_simp
    refine trH_take (.bool true) rfl (Or.inl ⟨by rfl, fun W _ => by go_simp⟩) ?_
    go_simp
    refine trH_take (.bool true) rfl (Or.inl ⟨by rfl, fun W _ => by go_simp⟩) ?_
    go_simp
    refine trH_take (.string s) rfl (Or.inl ⟨by rfl, fun W _ => by go_simp⟩) ?_
    go_simp
    refine trH_take (.string s) rfl (Or.inl ⟨by rfl, fun W _ => by go_simp⟩) ?_
    go_simp
    refine trH_take (.int .i64 c) rfl (Or.inl ⟨by rfl, fun W _ => by go_simp⟩) ?_
    go_simp
    refine trH_take (.string A) rfl (Or.inl ⟨by rfl, fun W _ => by go_simp⟩) ?_
    go_simp
    refine trH_take (.string s) rfl (Or.inl ⟨by rfl, fun W _ => by go_simp⟩) ?_
    go_simp
    refine trH_take (.int .i64 c) rfl (Or.inl ⟨by rfl, fun W _ => by go_simp⟩) ?_
    go_simp
    refine trH_take (.string B) rfl (Or.inl ⟨by rfl, fun W _ => by go_simp⟩) ?_
    go_simp
    refine trH_fork rfl (by rfl) rfl (by rfl) (fun K hK => ?_) (fun K hK => ?_)
    · have HK := Lib.hid hK
      clear hK
      go_simp
      have L1 := Sl.lay1 W1 s
      have hb := (Below.refl _ W1).alloc (Nat.le_refl _) (.cells #[.string s] 9)
      replace hS := hS.trans (hb.mono hS.size)
      clear hb
      generalize W1.alloc (.cells #[.string s] 9) = W2 at *
      generalize W1.heap.size = gW2 at *
      clear W1
      refine HK.out _ _ hS ?_
      clear HK K
      go_simp
      refine trH_fork rfl (by rfl) rfl (by rfl) (fun K hK => ?_) (fun K hK => ?_)
      · have HK := Lib.hid hK
        clear hK
        go_simp
        refine (S1.out _ _ L1.strs L1.lt).mono ?_
        rintro e W3 ⟨rfl, hb⟩
        clear L1
        replace hS := hS.trans (hb.mono hS.size)
        clear hb
        refine HK.out _ _ hS ?_
        clear HK K
        go_simp
        refine trH_call rfl (by rfl) (fun K hK => ?_)
        have HK := Lib.hid hK
        clear hK
        go_simp
        have L2 := Sl.lay1 W3 A
        have hb := (Below.refl _ W3).alloc (Nat.le_refl _) (.cells #[.string A] 9)
        replace hS := hS.trans (hb.mono hS.size)
        clear hb
        generalize W3.alloc (.cells #[.string A] 9) = W4 at *
        generalize W3.heap.size = gW4 at *
        clear W3
        refine HK.out _ _ hS ?_
        clear HK K
        go_simp
        refine trH_call rfl (by rfl) (fun K hK => ?_)
        have HK := Lib.hid hK
        clear hK
        go_simp
        refine (SA.out _ _ L2.strs L2.lt).mono ?_
        rintro e W5 ⟨rfl, hb⟩
        clear L2
        replace hS := hS.trans (hb.mono hS.size)
        clear hb
        refine HK.out _ _ hS ?_
        clear HK K
        go_simp
        refine trH_call rfl (by rfl) (fun K hK => ?_)
        have HK := Lib.hid hK
        clear hK
        go_simp
        refine (MB.out _).mono ?_
        rintro e W6 ⟨rfl, hb⟩
        replace hS := hS.trans (hb.mono hS.size)
        clear hb
        refine HK.out _ _ hS ?_
        clear HK K
        go_simp
        refine trH_take (.bool true) rfl (Or.inl ⟨by rfl, fun W _ => by go_simp⟩) ?_
        go_simp
        refine trH_take (.bool true) rfl (Or.inl ⟨by rfl, fun W _ => by go_simp⟩) ?_
        go_simp
        refine trH_take (.bool true) rfl (Or.inl ⟨by rfl, fun W _ => by go_simp⟩) ?_
        go_simp
        refine trH_take (.string s) rfl (Or.inl ⟨by rfl, fun W _ => by go_simp⟩) ?_
        go_simp
        refine trH_take (.int .i64 c) rfl (Or.inl ⟨by rfl, fun W _ => by go_simp⟩) ?_
        go_simp
        refine trH_take (.string A) rfl (Or.inl ⟨by rfl, fun W _ => by go_simp⟩) ?_
        go_simp
        refine trH_take (.string s) rfl (Or.inl ⟨by rfl, fun W _ => by go_simp⟩) ?_
        go_simp
        refine trH_take (.int .i64 c) rfl (Or.inl ⟨by rfl, fun W _ => by go_simp⟩) ?_
        go_simp
        refine trH_take (.string B) rfl (Or.inl ⟨by rfl, fun W _ => by go_simp⟩) ?_
        go_simp
        refine trH_take (.string s) rfl (Or.inl ⟨by rfl, fun W _ => by go_simp⟩) ?_
        go_simp
        refine trH_fork rfl (by rfl) rfl (by rfl) (fun K hK => ?_) (fun K hK => ?_)
        · have HK := Lib.hid hK
          clear hK
          go_simp
          have L3 := Sl.lay2 W6 A B
          have hb := (Below.refl _ W6).alloc (Nat.le_refl _) (.cells #[.string A, .string B] 9)
          replace hS := hS.trans (hb.mono hS.size)
          clear hb
          generalize W6.alloc (.cells #[.string A, .string B] 9) = W7 at *
          generalize W6.heap.size = gW7 at *
          clear W6
          refine HK.out _ _ hS ?_
          clear HK K
          go_simp
          refine trH_fork rfl (by rfl) rfl (by rfl) (fun K hK => ?_) (fun K hK => ?_)
          · have HK := Lib.hid hK
            clear hK
            go_simp
            refine (S2.out _ _ L3.strs L3.lt).mono ?_
            rintro e W8 ⟨rfl, hb⟩
            clear L3
            replace hS := hS.trans (hb.mono hS.size)
            clear hb
            refine HK.out _ _ hS ?_
            clear HK K
            go_simp
            refine trH_call rfl (by rfl) (fun K hK => ?_)
            have HK := Lib.hid hK
            clear hK
            go_simp
            have L4 := Sl.lay1 W8 s
            have hb := (Below.refl _ W8).alloc (Nat.le_refl _) (.cells #[.string s] 9)
            replace hS := hS.trans (hb.mono hS.size)
            clear hb
            generalize W8.alloc (.cells #[.string s] 9) = W9 at *
            generalize W8.heap.size = gW9 at *
            clear W8
            refine HK.out _ _ hS ?_
            clear HK K
            go_simp
            refine trH_call rfl (by rfl) (fun K hK => ?_)
            have HK := Lib.hid hK
            clear hK
            go_simp
            refine (S1.out _ _ L4.strs L4.lt).mono ?_
            rintro e W10 ⟨rfl, hb⟩
            clear L4
            replace hS := hS.trans (hb.mono hS.size)
            clear hb
            refine HK.out _ _ hS ?_
            clear HK K
            go_simp
            refine trH_take (.bool true) rfl (Or.inl ⟨by rfl, fun W _ => by go_simp⟩) ?_
            go_simp
            refine trH_take (.bool true) rfl (Or.inl ⟨by rfl, fun W _ => by go_simp⟩) ?_
            go_simp
            refine trH_take (.bool true) rfl (Or.inl ⟨by rfl, fun W _ => by go_simp⟩) ?_
            go_simp
            refine trH_done ?_
            go_wp2
            go_ret
            exact ⟨rfl, hS⟩
          · have HK := Lib.hid hK
            clear hK
            go_simp
            have L4 := Sl.lay1 W7 s
            have hb := (Below.refl _ W7).alloc (Nat.le_refl _) (.cells #[.string s] 9)
            replace L3 := L3.below hb
            replace hS := hS.trans (hb.mono hS.size)
            clear hb
            generalize W7.alloc (.cells #[.string s] 9) = W11 at *
            generalize W7.heap.size = gW11 at *
            clear W7
            refine HK.out _ _ hS ?_
            clear HK K
            go_simp
            refine trH_call rfl (by rfl) (fun K hK => ?_)
            have HK := Lib.hid hK
            clear hK
            go_simp
            refine (S2.out _ _ L3.strs L3.lt).mono ?_
            rintro e W12 ⟨rfl, hb⟩
            clear L3
            replace L4 := L4.below hb
            replace hS := hS.trans (hb.mono hS.size)
            clear hb
            refine HK.out _ _ hS ?_
            clear HK K
            go_simp
            refine trH_call rfl (by rfl) (fun K hK => ?_)
            have HK := Lib.hid hK
            clear hK
            go_simp
            refine (S1.out _ _ L4.strs L4.lt).mono ?_
            rintro e W13 ⟨rfl, hb⟩
            clear L4
            replace hS := hS.trans (hb.mono hS.size)
            clear hb
            refine HK.out _ _ hS ?_
            clear HK K
            go_simp
            refine trH_take (.bool true) rfl (Or.inl ⟨by rfl, fun W _ => by go_simp⟩) ?_
            go_simp
            refine trH_take (.bool true) rfl (Or.inl ⟨by rfl, fun W _ => by go_simp⟩) ?_
            go_simp
            refine trH_take (.bool true) rfl (Or.inl ⟨by rfl, fun W _ => by go_simp⟩) ?_
            go_simp
            refine trH_done ?_
            go_wp2
            go_ret
            exact ⟨rfl, hS⟩
        · have HK := Lib.hid hK
          clear hK
          go_simp
          have L4 := Sl.lay1 W6 s
          have hb := (Below.refl _ W6).alloc (Nat.le_refl _) (.cells #[.string s] 9)
          replace hS := hS.trans (hb.mono hS.size)
          clear hb
          generalize W6.alloc (.cells #[.string s] 9) = W14 at *
          generalize W6.heap.size = gW14 at *
          clear W6
          refine HK.out _ _ hS ?_
          clear HK K
          go_simp
          refine trH_call rfl (by rfl) (fun K hK => ?_)
          have HK := Lib.hid hK
          clear hK
          go_simp
          have L3 := Sl.lay2 W14 A B
          have hb := (Below.refl _ W14).alloc (Nat.le_refl _) (.cells #[.string A, .string B] 9)
          replace L4 := L4.below hb
          replace hS := hS.trans (hb.mono hS.size)
          clear hb
          generalize W14.alloc (.cells #[.string A, .string B] 9) = W15 at *
          generalize W14.heap.size = gW15 at *
          clear W14
          refine HK.out _ _ hS ?_
          clear HK K
          go_simp
          refine trH_call rfl (by rfl) (fun K hK => ?_)
          have HK := Lib.hid hK
          clear hK
          go_simp
          refine (S2.out _ _ L3.strs L3.lt).mono ?_
          rintro e W16 ⟨rfl, hb⟩
          clear L3
          replace L4 := L4.below hb
          replace hS := hS.trans (hb.mono hS.size)
          clear hb
          refine HK.out _ _ hS ?_
          clear HK K
          go_simp
          refine trH_call rfl (by rfl) (fun K hK => ?_)
          have HK := Lib.hid hK
          clear hK
          go_simp
          refine (S1.out _ _ L4.strs L4.lt).mono ?_
          rintro e W17 ⟨rfl, hb⟩
          clear L4
          replace hS := hS.trans (hb.mono hS.size)
          clear hb
          refine HK.out _ _ hS ?_
          clear HK K
          go_simp
          refine trH_take (.bool true) rfl (Or.inl ⟨by rfl, fun W _ => by go_simp⟩) ?_
          go_simp
          refine trH_take (.bool true) rfl (Or.inl ⟨by rfl, fun W _ => by go_simp⟩) ?_
          go_simp
          refine trH_take (.bool true) rfl (Or.inl ⟨by rfl, fun W _ => by go_simp⟩) ?_
          go_simp
          refine trH_done ?_
          go_wp2
          go_ret
          exact ⟨rfl, hS⟩
      · have HK := Lib.hid hK
        clear hK
        go_simp
        have L2 := Sl.lay1 W2 A
        have hb := (Below.refl _ W2).alloc (Nat.le_refl _) (.cells #[.string A] 9)
        replace L1 := L1.below hb
        replace hS := hS.trans (hb.mono hS.size)
        clear hb
        generalize W2.alloc (.cells #[.string A] 9) = W18 at *
        generalize W2.heap.size = gW18 at *
        clear W2
        refine HK.out _ _ hS ?_
        clear HK K
        go_simp
        refine trH_call rfl (by rfl) (fun K hK => ?_)
        have HK := Lib.hid hK
        clear hK
        go_simp
        refine (S1.out _ _ L1.strs L1.lt).mono ?_
        rintro e W19 ⟨rfl, hb⟩
        clear L1
        replace L2 := L2.below hb
        replace hS := hS.trans (hb.mono hS.size)
        clear hb
        refine HK.out _ _ hS ?_
        clear HK K
        go_simp
        refine trH_call rfl (by rfl) (fun K hK => ?_)
        have HK := Lib.hid hK
        clear hK
        go_simp
        refine (SA.out _ _ L2.strs L2.lt).mono ?_
        rintro e W20 ⟨rfl, hb⟩
        clear L2
        replace hS := hS.trans (hb.mono hS.size)
        clear hb
        refine HK.out _ _ hS ?_
        clear HK K
        go_simp
        refine trH_call rfl (by rfl) (fun K hK => ?_)
        have HK := Lib.hid hK
        clear hK
        go_simp
        refine (MB.out _).mono ?_
        rintro e W21 ⟨rfl, hb⟩
        replace hS := hS.trans (hb.mono hS.size)
        clear hb
        refine HK.out _ _ hS ?_
        clear HK K
        go_simp
        refine trH_take (.bool true) rfl (Or.inl ⟨by rfl, fun W _ => by go_simp⟩) ?_
        go_simp
        refine trH_take (.bool true) rfl (Or.inl ⟨by rfl, fun W _ => by go_simp⟩) ?_
        go_simp
        refine trH_take (.bool true) rfl (Or.inl ⟨by rfl, fun W _ => by go_simp⟩) ?_
        go_simp
        refine trH_take (.string s) rfl (Or.inl ⟨by rfl, fun W _ => by go_simp⟩) ?_
        go_simp
        refine trH_take (.int .i64 c) rfl (Or.inl ⟨by rfl, fun W _ => by go_simp⟩) ?_
        go_simp
        refine trH_take (.string A) rfl (Or.inl ⟨by rfl, fun W _ => by go_simp⟩) ?_
        go_simp
        refine trH_take (.string s) rfl (Or.inl ⟨by rfl, fun W _ => by go_simp⟩) ?_
        go_simp
        refine trH_take (.int .i64 c) rfl (Or.inl ⟨by rfl, fun W _ => by go_simp⟩) ?_
        go_simp
        refine trH_take (.string B) rfl (Or.inl ⟨by rfl, fun W _ => by go_simp⟩) ?_
        go_simp
        refine trH_take (.string s) rfl (Or.inl ⟨by rfl, fun W _ => by go_simp⟩) ?_
        go_simp
        refine trH_fork rfl (by rfl) rfl (by rfl) (fun K hK => ?_) (fun K hK => ?_)
        · have HK := Lib.hid hK
          clear hK
          go_simp
          have L3 := Sl.lay2 W21 A B
          have hb := (Below.refl _ W21).alloc (Nat.le_refl _) (.cells #[.string A, .string B] 9)
          replace hS := hS.trans (hb.mono hS.size)
          clear hb
          generalize W21.alloc (.cells #[.string A, .string B] 9) = W22 at *
          generalize W21.heap.size = gW22 at *
          clear W21
          refine HK.out _ _ hS ?_
          clear HK K
          go_simp
          refine trH_fork rfl (by rfl) rfl (by rfl) (fun K hK => ?_) (fun K hK => ?_)
          · have HK := Lib.hid hK
            clear hK
            go_simp
            refine (S2.out _ _ L3.strs L3.lt).mono ?_
            rintro e W23 ⟨rfl, hb⟩
            clear L3
            replace hS := hS.trans (hb.mono hS.size)
            clear hb
            refine HK.out _ _ hS ?_
            clear HK K
            go_simp
            refine trH_call rfl (by rfl) (fun K hK => ?_)
            have HK := Lib.hid hK
            clear hK
            go_simp
            have L4 := Sl.lay1 W23 s
            have hb := (Below.refl _ W23).alloc (Nat.le_refl _) (.cells #[.string s] 9)
            replace hS := hS.trans (hb.mono hS.size)
            clear hb
            generalize W23.alloc (.cells #[.string s] 9) = W24 at *
            generalize W23.heap.size = gW24 at *
            clear W23
            refine HK.out _ _ hS ?_
            clear HK K
            go_simp
            refine trH_call rfl (by rfl) (fun K hK => ?_)
            have HK := Lib.hid hK
            clear hK
            go_simp
            refine (S1.out _ _ L4.strs L4.lt).mono ?_
            rintro e W25 ⟨rfl, hb⟩
            clear L4
            replace hS := hS.trans (hb.mono hS.size)
            clear hb
            refine HK.out _ _ hS ?_
            clear HK K
            go_simp
            refine trH_take (.bool true) rfl (Or.inl ⟨by rfl, fun W _ => by go_simp⟩) ?_
            go_simp
            refine trH_take (.bool true) rfl (Or.inl ⟨by rfl, fun W _ => by go_simp⟩) ?_
            go_simp
            refine trH_take (.bool true) rfl (Or.inl ⟨by rfl, fun W _ => by go_simp⟩) ?_
            go_simp
            refine trH_done ?_
            go_wp2
            go_ret
            exact ⟨rfl, hS⟩
          · have HK := Lib.hid hK
            clear hK
            go_simp
            have L4 := Sl.lay1 W22 s
            have hb := (Below.refl _ W22).alloc (Nat.le_refl _) (.cells #[.string s] 9)
            replace L3 := L3.below hb
            replace hS := hS.trans (hb.mono hS.size)
            clear hb
            generalize W22.alloc (.cells #[.string s] 9) = W26 at *
            generalize W22.heap.size = gW26 at *
            clear W22
            refine HK.out _ _ hS ?_
            clear HK K
            go_simp
            refine trH_call rfl (by rfl) (fun K hK => ?_)
            have HK := Lib.hid hK
            clear hK
            go_simp
            refine (S2.out _ _ L3.strs L3.lt).mono ?_
            rintro e W27 ⟨rfl, hb⟩
            clear L3
            replace L4 := L4.below hb
            replace hS := hS.trans (hb.mono hS.size)
            clear hb
            refine HK.out _ _ hS ?_
            clear HK K
            go_simp
            refine trH_call rfl (by rfl) (fun K hK => ?_)
            have HK := Lib.hid hK
            clear hK
            go_simp
            refine (S1.out _ _ L4.strs L4.lt).mono ?_
            rintro e W28 ⟨rfl, hb⟩
            clear L4
            replace hS := hS.trans (hb.mono hS.size)
            clear hb
            refine HK.out _ _ hS ?_
            clear HK K
            go_simp
            refine trH_take (.bool true) rfl (Or.inl ⟨by rfl, fun W _ => by go_simp⟩) ?_
            go_simp
            refine trH_take (.bool true) rfl (Or.inl ⟨by rfl, fun W _ => by go_simp⟩) ?_
            go_simp
            refine trH_take (.bool true) rfl (Or.inl ⟨by rfl, fun W _ => by go_simp⟩) ?_
            go_simp
            refine trH_done ?_
            go_wp2
            go_ret
            exact ⟨rfl, hS⟩
        · have HK := Lib.hid hK
          clear hK
          go_simp
          have L4 := Sl.lay1 W21 s
          have hb := (Below.refl _ W21).alloc (Nat.le_refl _) (.cells #[.string s] 9)
          replace hS := hS.trans (hb.mono hS.size)
          clear hb
          generalize W21.alloc (.cells #[.string s] 9) = W29 at *
          generalize W21.heap.size = gW29 at *
          clear W21
          refine HK.out _ _ hS ?_
          clear HK K
          go_simp
          refine trH_call rfl (by rfl) (fun K hK => ?_)
          have HK := Lib.hid hK
          clear hK
          go_simp
          have L3 := Sl.lay2 W29 A B
          have hb := (Below.refl _ W29).alloc (Nat.le_refl _) (.cells #[.string A, .string B] 9)
          replace L4 := L4.below hb
          replace hS := hS.trans (hb.mono hS.size)
          clear hb
          generalize W29.alloc (.cells #[.string A, .string B] 9) = W30 at *
          generalize W29.heap.size = gW30 at *
          clear W29
          refine HK.out _ _ hS ?_
          clear HK K
          go_simp
          refine trH_call rfl (by rfl) (fun K hK => ?_)
          have HK := Lib.hid hK
          clear hK
          go_simp
          refine (S2.out _ _ L3.strs L3.lt).mono ?_
          rintro e W31 ⟨rfl, hb⟩
          clear L3
          replace L4 := L4.below hb
          replace hS := hS.trans (hb.mono hS.size)
          clear hb
          refine HK.out _ _ hS ?_
          clear HK K
          go_simp
          refine trH_call rfl (by rfl) (fun K hK => ?_)
          have HK := Lib.hid hK
          clear hK
          go_simp
          refine (S1.out _ _ L4.strs L4.lt).mono ?_
          rintro e W32 ⟨rfl, hb⟩
          clear L4
          replace hS := hS.trans (hb.mono hS.size)
          clear hb
          refine HK.out _ _ hS ?_
          clear HK K
          go_simp
          refine trH_take (.bool true) rfl (Or.inl ⟨by rfl, fun W _ => by go_simp⟩) ?_
          go_simp
          refine trH_take (.bool true) rfl (Or.inl ⟨by rfl, fun W _ => by go_simp⟩) ?_
          go_simp
          refine trH_take (.bool true) rfl (Or.inl ⟨by rfl, fun W _ => by go_simp⟩) ?_
          go_simp
          refine trH_done ?_
          go_wp2
          go_ret
          exact ⟨rfl, hS⟩
    · have HK := Lib.hid hK
      clear hK
      go_simp
      have L2 := Sl.lay1 W1 A
      have hb := (Below.refl _ W1).alloc (Nat.le_refl _) (.cells #[.string A] 9)
      replace hS := hS.trans (hb.mono hS.size)
      clear hb
      generalize W1.alloc (.cells #[.string A] 9) = W33 at *
      generalize W1.heap.size = gW33 at *
      clear W1
      refine HK.out _ _ hS ?_
      clear HK K
      go_simp
      refine trH_call rfl (by rfl) (fun K hK => ?_)
      have HK := Lib.hid hK
      clear hK
      go_simp
      have L1 := Sl.lay1 W33 s
      have hb := (Below.refl _ W33).alloc (Nat.le_refl _) (.cells #[.string s] 9)
      replace L2 := L2.below hb
      replace hS := hS.trans (hb.mono hS.size)
      clear hb
      generalize W33.alloc (.cells #[.string s] 9) = W34 at *
      generalize W33.heap.size = gW34 at *
      clear W33
      refine HK.out _ _ hS ?_
      clear HK K
      go_simp
      refine trH_call rfl (by rfl) (fun K hK => ?_)
      have HK := Lib.hid hK
      clear hK
      go_simp
      refine (S1.out _ _ L1.strs L1.lt).mono ?_
      rintro e W35 ⟨rfl, hb⟩
      clear L1
      replace L2 := L2.below hb
      replace hS := hS.trans (hb.mono hS.size)
      clear hb
      refine HK.out _ _ hS ?_
      clear HK K
      go_simp
      refine trH_call rfl (by rfl) (fun K hK => ?_)
      have HK := Lib.hid hK
      clear hK
      go_simp
      refine (SA.out _ _ L2.strs L2.lt).mono ?_
      rintro e W36 ⟨rfl, hb⟩
      clear L2
      replace hS := hS.trans (hb.mono hS.size)
      clear hb
      refine HK.out _ _ hS ?_
      clear HK K
      go_simp
      refine trH_call rfl (by rfl) (fun K hK => ?_)
      have HK := Lib.hid hK
      clear hK
      go_simp
      refine (MB.out _).mono ?_
      rintro e W37 ⟨rfl, hb⟩
      replace hS := hS.trans (hb.mono hS.size)
      clear hb
      refine HK.out _ _ hS ?_
      clear HK K
      go_simp
      refine trH_take (.bool true) rfl (Or.inl ⟨by rfl, fun W _ => by go_simp⟩) ?_
      go_simp
      refine trH_take (.bool true) rfl (Or.inl ⟨by rfl, fun W _ => by go_simp⟩) ?_
      go_simp
      refine trH_take (.bool true) rfl (Or.inl ⟨by rfl, fun W _ => by go_simp⟩) ?_
      go_simp
      refine trH_take (.string s) rfl (Or.inl ⟨by rfl, fun W _ => by go_simp⟩) ?_
      go_simp
      refine trH_take (.int .i64 c) rfl (Or.inl ⟨by rfl, fun W _ => by go_simp⟩) ?_
      go_simp
      refine trH_take (.string A) rfl (Or.inl ⟨by rfl, fun W _ => by go_simp⟩) ?_
      go_simp
      refine trH_take (.string s) rfl (Or.inl ⟨by rfl, fun W _ => by go_simp⟩) ?_
      go_simp
      refine trH_take (.int .i64 c) rfl (Or.inl ⟨by rfl, fun W _ => by go_simp⟩) ?_
      go_simp
      refine trH_take (.string B) rfl (Or.inl ⟨by rfl, fun W _ => by go_simp⟩) ?_
      go_simp
      refine trH_take (.string s) rfl (Or.inl ⟨by rfl, fun W _ => by go_simp⟩) ?_
      go_simp
      refine trH_fork rfl (by rfl) rfl (by rfl) (fun K hK => ?_) (fun K hK => ?_)
      · have HK := Lib.hid hK
        clear hK
        go_simp
        have L3 := Sl.lay2 W37 A B
        have hb := (Below.refl _ W37).alloc (Nat.le_refl _) (.cells #[.string A, .string B] 9)
        replace hS := hS.trans (hb.mono hS.size)
        clear hb
        generalize W37.alloc (.cells #[.string A, .string B] 9) = W38 at *
        generalize W37.heap.size = gW38 at *
        clear W37
        refine HK.out _ _ hS ?_
        clear HK K
        go_simp
        refine trH_fork rfl (by rfl) rfl (by rfl) (fun K hK => ?_) (fun K hK => ?_)
        · have HK := Lib.hid hK
          clear hK
          go_simp
          refine (S2.out _ _ L3.strs L3.lt).mono ?_
          rintro e W39 ⟨rfl, hb⟩
          clear L3
          replace hS := hS.trans (hb.mono hS.size)
          clear hb
          refine HK.out _ _ hS ?_
          clear HK K
          go_simp
          refine trH_call rfl (by rfl) (fun K hK => ?_)
          have HK := Lib.hid hK
          clear hK
          go_simp
          have L4 := Sl.lay1 W39 s
          have hb := (Below.refl _ W39).alloc (Nat.le_refl _) (.cells #[.string s] 9)
          replace hS := hS.trans (hb.mono hS.size)
          clear hb
          generalize W39.alloc (.cells #[.string s] 9) = W40 at *
          generalize W39.heap.size = gW40 at *
          clear W39
          refine HK.out _ _ hS ?_
          clear HK K
          go_simp
          refine trH_call rfl (by rfl) (fun K hK => ?_)
          have HK := Lib.hid hK
          clear hK
          go_simp
          refine (S1.out _ _ L4.strs L4.lt).mono ?_
          rintro e W41 ⟨rfl, hb⟩
          clear L4
          replace hS := hS.trans (hb.mono hS.size)
          clear hb
          refine HK.out _ _ hS ?_
          clear HK K
          go_simp
          refine trH_take (.bool true) rfl (Or.inl ⟨by rfl, fun W _ => by go_simp⟩) ?_
          go_simp
          refine trH_take (.bool true) rfl (Or.inl ⟨by rfl, fun W _ => by go_simp⟩) ?_
          go_simp
          refine trH_take (.bool true) rfl (Or.inl ⟨by rfl, fun W _ => by go_simp⟩) ?_
          go_simp
          refine trH_done ?_
          go_wp2
          go_ret
          exact ⟨rfl, hS⟩
        · have HK := Lib.hid hK
          clear hK
          go_simp
          have L4 := Sl.lay1 W38 s
          have hb := (Below.refl _ W38).alloc (Nat.le_refl _) (.cells #[.string s] 9)
          replace L3 := L3.below hb
          replace hS := hS.trans (hb.mono hS.size)
          clear hb
          generalize W38.alloc (.cells #[.string s] 9) = W42 at *
          generalize W38.heap.size = gW42 at *
          clear W38
          refine HK.out _ _ hS ?_
          clear HK K
          go_simp
          refine trH_call rfl (by rfl) (fun K hK => ?_)
          have HK := Lib.hid hK
          clear hK
          go_simp
          refine (S2.out _ _ L3.strs L3.lt).mono ?_
          rintro e W43 ⟨rfl, hb⟩
          clear L3
          replace L4 := L4.below hb
          replace hS := hS.trans (hb.mono hS.size)
          clear hb
          refine HK.out _ _ hS ?_
          clear HK K
          go_simp
          refine trH_call rfl (by rfl) (fun K hK => ?_)
          have HK := Lib.hid hK
          clear hK
          go_simp
          refine (S1.out _ _ L4.strs L4.lt).mono ?_
          rintro e W44 ⟨rfl, hb⟩
          clear L4
          replace hS := hS.trans (hb.mono hS.size)
          clear hb
          refine HK.out _ _ hS ?_
          clear HK K
          go_simp
          refine trH_take (.bool true) rfl (Or.inl ⟨by rfl, fun W _ => by go_simp⟩) ?_
          go_simp
          refine trH_take (.bool true) rfl (Or.inl ⟨by rfl, fun W _ => by go_simp⟩) ?_
          go_simp
          refine trH_take (.bool true) rfl (Or.inl ⟨by rfl, fun W _ => by go_simp⟩) ?_
          go_simp
          refine trH_done ?_
          go_wp2
          go_ret
          exact ⟨rfl, hS⟩
      · have HK := Lib.hid hK
        clear hK
        go_simp
        have L4 := Sl.lay1 W37 s
        have hb := (Below.refl _ W37).alloc (Nat.le_refl _) (.cells #[.string s] 9)
        replace hS := hS.trans (hb.mono hS.size)
        clear hb
        generalize W37.alloc (.cells #[.string s] 9) = W45 at *
        generalize W37.heap.size = gW45 at *
        clear W37
        refine HK.out _ _ hS ?_
        clear HK K
        go_simp
        refine trH_call rfl (by rfl) (fun K hK => ?_)
        have HK := Lib.hid hK
        clear hK
        go_simp
        have L3 := Sl.lay2 W45 A B
        have hb := (Below.refl _ W45).alloc (Nat.le_refl _) (.cells #[.string A, .string B] 9)
        replace L4 := L4.below hb
        replace hS := hS.trans (hb.mono hS.size)
        clear hb
        generalize W45.alloc (.cells #[.string A, .string B] 9) = W46 at *
        generalize W45.heap.size = gW46 at *
        clear W45
        refine HK.out _ _ hS ?_
        clear HK K
        go_simp
        refine trH_call rfl (by rfl) (fun K hK => ?_)
        have HK := Lib.hid hK
        clear hK
        go_simp
        refine (S2.out _ _ L3.strs L3.lt).mono ?_
        rintro e W47 ⟨rfl, hb⟩
        clear L3
        replace L4 := L4.below hb
        replace hS := hS.trans (hb.mono hS.size)
        clear hb
        refine HK.out _ _ hS ?_
        clear HK K
        go_simp
        refine trH_call rfl (by rfl) (fun K hK => ?_)
        have HK := Lib.hid hK
        clear hK
        go_simp
        refine (S1.out _ _ L4.strs L4.lt).mono ?_
        rintro e W48 ⟨rfl, hb⟩
        clear L4
        replace hS := hS.trans (hb.mono hS.size)
        clear hb
        refine HK.out _ _ hS ?_
        clear HK K
        go_simp
        refine trH_take (.bool true) rfl (Or.inl ⟨by rfl, fun W _ => by go_simp⟩) ?_
        go_simp
        refine trH_take (.bool true) rfl (Or.inl ⟨by rfl, fun W _ => by go_simp⟩) ?_
        go_simp
        refine trH_take (.bool true) rfl (Or.inl ⟨by rfl, fun W _ => by go_simp⟩) ?_
        go_simp
        refine trH_done ?_
        go_wp2
        go_ret
        exact ⟨rfl, hS⟩
  · have hor : 2000 < s.size ∨ cut < 0 ∨ (s.size : Int) < cut := by omega
    by_cases h1 : (2000 : Int) < s.size
    · go_wp2
      go_ret
      exact ⟨rfl, hb1⟩
    · by_cases h2 : cut < 0
      · go_wp2
        go_ret
        exact ⟨rfl, hb1⟩
      · have h3 : (s.size : Int) < cut := by omega
        clear hor hg
        go_wp2
        go_ret
        exact ⟨rfl, hb1⟩

theorem own : ownKnob Try.prog.godebug = none := by kernel_rfl

set_option maxRecDepth 100000 in
theorem lifted (os : Os) (started : os.Started) (H : Type) (enc : TypeId × Value → H) :
    ReturnsInHanded {} Try.checked os 4 .any (Rows.crcSealedSpec.pre6 enc Try.prog Try.f4 Rows.crcSealedRow.domain false) (Rows.crcSealedSpec.post enc Try.prog Try.f4 false true false false) := by
  refine returnsInHanded_of_change (C := Try.checked) own started (by kernel_rfl) Try.func4
    (ChangeSpec.witness6 (enc := enc) (C := Try.checked) false ⟨#[], #[.string ByteArray.empty, .int .i64 0], []⟩ 8 (by kernel_rfl) (by kernel_rfl) (by kernel_rfl) (by kernel_rfl)) ?_
  intro W base args ds gs before hval0 hW hcnd _
  have hval : ∀ (j : Nat) t v, Try.f4.params[j]? = some t → args[j]? = some v → Value.okWide Try.prog W .any base t v := hval0
  have hW' := hW
  obtain ⟨p, q, hA0, hV, rfl, hfz, hnd⟩ := hW
  have hA : DataW.TrodAll enc Try.prog W 0 (fun _ => true) true Try.f4.params.toList args.toList ds p := hA0
  rw [Try.params4] at hA hval
  obtain ⟨v0, vs0, d0, ds0, p0, q0, hargs, rfl, rfl, h0, r0⟩ := trodAll_cons hA
  obtain ⟨v1, vs1, d1, ds1, p1, q1, rfl, rfl, rfl, h1, r1⟩ := trodAll_cons r0
  obtain ⟨rfl, rfl, rfl⟩ := trodAll_nil r1
  obtain rfl : args = #[v0, v1] := by cases args; simp_all
  obtain ⟨rfl, rfl⟩ := trodVars_none hV
  obtain ⟨a0, rfl, rfl, rfl, w0⟩ := open_string Try.underlying9 (hval 0 9 v0 rfl rfl) h0
  obtain ⟨a1, rfl, rfl, rfl, w1⟩ := open_int Try.underlying3 (hval 1 3 v1 rfl rfl) h1
  clear hA0 hval0
  refine (walk a0 a1 w0 w1 W).mono fun e W' ⟨he, hg⟩ => ?_
  subst he
  exact ⟨_, rfl, law_post Try.laid (by kernel_rfl) (by kernel_rfl) Try.underlying4 rfl rfl hW' hg⟩

theorem over : Rows.crcSealedRow.holds Try.pinned (OpenSpec.ofChange Rows.crcSealedSpec) :=
  OpenClaim.holds_of_wide 4 Try.f4 rfl rfl rfl rfl rfl rfl rfl ⟨rfl, rfl, rfl, rfl, rfl⟩ rfl rfl rfl rfl rfl (by kernel_rfl) Try.func4 (by kernel_rfl)
    (of_decide_eq_true (by kernel_rfl)) (by unfold Func.isWrapper; first | (rw [if_pos (by decide +kernel)]; kernel_rfl) | (rw [if_neg (by decide +kernel)]; exact ⟨rfl, rfl⟩))
    (fun os started H enc _ => lifted os started H enc)
end Go.Proofs.Ytkaniccmdjbkdaa.crcSealed

namespace Go.Proofs.Ytkaniccmdjbkdaa
theorem crcSealed_holds : Rows.CrcSealedSaid := crcSealed.over
end Go.Proofs.Ytkaniccmdjbkdaa
