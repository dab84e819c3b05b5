/-
  Layer 11: the statements' awake, by what the program's object is to answer.
-/
import Derived.Test.YtapjgdhdgpakhaaGreatDoorOj
namespace Go.Proofs.YtapjgdhdgpakhaaGreatDoor.Hj
open Go.RowKit Ob Hr
set_option linter.unusedVariables false

set_option maxHeartbeats 8000000 in
set_option maxRecDepth 100000 in
theorem awake11_any {K : World → Prop} (F : Faces K) (w : World) (hK : K w) : Calls Tryz.prog 8 #[] w fun e w' => e = .returned (.bool true) ∧ Below w.heap.size w w' := by
  have HK := Lib.hid hK
  have HF := Lib.hid F
  have O1 := Lib.hid (fun W h => show Calls Tryz.prog 10 #[.agg (objC tagO none 0 none 0), .int .i64 1] W fun e w' => e = .returned (.tuple #[.string tagS, .int .i64 0]) ∧ Below W.heap.size W w' from by have := F.print tagO none 0 none 0 1 W h (lies_nil _ _ _ rfl rfl _ _) tag_small (Nat.zero_le _); rwa [tag_print] at this)
  have O2 := Lib.hid (fun W h => show Calls Tryz.prog 12 #[.int .i64 4, .string tagS, .int .i64 1] W fun e w' => ∃ A c P d, e = .returned (.tuple #[.agg (objC tagO A c P d), .int .i64 0]) ∧ Lies w' w'.heap.size tagO A P ∧ Below W.heap.size W w' from by have := F.parse' 4 tagS 1 W h (by decide); rwa [tag_parse] at this)
  have O3 := Lib.hid (fun W h => show Calls Tryz.prog 12 #[.int .i64 4, .string tagS, .int .i64 2] W fun e w' => ∃ A c P d, e = .returned (.tuple #[.agg (objC zero A c P d), .int .i64 3]) ∧ Lies w' w'.heap.size zero A P ∧ Below W.heap.size W w' from by have := F.parse' 4 tagS 2 W h (by decide); rwa [tag_not] at this)
  have S1 := Lib.hid (fun A c P d W h (hl : Lies W W.heap.size tagO A P) => show Calls Tryz.prog 17 #[.agg (objC tagO none 0 none 0), .agg (objC tagO A c P d)] W fun e w' => e = .returned (.bool true) ∧ Below W.heap.size W w' from by have := F.same tagO tagO none 0 none 0 A c P d W h (lies_nil _ _ _ rfl rfl _ _) hl tag_small tag_small; rwa [tag_self] at this)
  have S2 := Lib.hid (fun W h => show Calls Tryz.prog 17 #[.agg (objC tagO none 0 none 0), .agg #[.int .i64 0, .string ⟨#[]⟩, .slice none 0 0, .string ⟨#[]⟩, .slice none 0 0, .string ⟨#[]⟩, .int .i64 0, .string ⟨#[]⟩, .string ⟨#[]⟩, .int .i64 0]] W fun e w' => e = .returned (.bool false) ∧ Below W.heap.size W w' from by have := F.same tagO zero none 0 none 0 none 0 none 0 W h (lies_nil _ _ _ rfl rfl _ _) (lies_nil _ _ _ rfl rfl _ _) tag_small Small.of_zero; rwa [tag_other] at this)
  have R1 := Lib.hid (fun W h => show Calls Tryz.prog 15 #[.agg (objC tagO none 0 none 0), .int .i64 1] W fun e w' => e = .returned (.bool true) ∧ Below W.heap.size W w' from by have := F.right tagO none 0 none 0 1 W h (lies_nil _ _ _ rfl rfl _ _) tag_small (Nat.zero_le _); rwa [tag_right] at this)
  have R2 := Lib.hid (fun W h => show Calls Tryz.prog 15 #[.agg (objC tagO none 0 none 0), .int .i64 2] W fun e w' => e = .returned (.bool false) ∧ Below W.heap.size W w' from by have := F.right tagO none 0 none 0 2 W h (lies_nil _ _ _ rfl rfl _ _) tag_small (Nat.zero_le _); rwa [tag_wrong] at this)
  have hts : tagS = tagS := rfl
  clear hK F hts
  go_enter Tryz.func8, Tryz.ntmps8
  go_upto_region 2 with fail
  have HP := Lib.hid (show OneB w (w.alloc (.cells #[.int .i64 4, .string ⟨#[104, 105]⟩, .slice none 0 0, .string ⟨#[]⟩, .slice none 0 0, .string ⟨#[48, 49, 50, 51, 52, 53, 54, 55, 56, 57, 48, 49, 50, 51, 52, 53, 54, 55, 56, 57]⟩, .int .i64 3, .string ⟨#[118, 49]⟩, .string ⟨#[109, 101]⟩, .int .i64 5] 25)) w.heap.size 25 (objC tagO none 0 none 0) from one_new w _ (objC tagO none 0 none 0))
  generalize w.alloc (.cells #[.int .i64 4, .string ⟨#[104, 105]⟩, .slice none 0 0, .string ⟨#[]⟩, .slice none 0 0, .string ⟨#[48, 49, 50, 51, 52, 53, 54, 55, 56, 57, 48, 49, 50, 51, 52, 53, 54, 55, 56, 57]⟩, .int .i64 3, .string ⟨#[118, 49]⟩, .string ⟨#[109, 101]⟩, .int .i64 5] 25) = W1 at *
  generalize hg1 : w.heap.size = g1 at *
  obtain ⟨c0, c1, c2, c3, c4, c5, c6, c7, c8, c9⟩ := HP.out.a.ten
  go_upto_region 3 with (go_at_call 10; refine (O1.out _ (HF.out.under _ _ HK.out HP.out.below)).mono ?_; rintro r w2 ⟨rfl, hb2⟩; have HP := Lib.hid (HP.out.step hb2); clear hb2)
  go_upto_region 4 with (go_at_call 12; refine (O2.out _ (HF.out.under _ _ HK.out HP.out.below)).mono ?_; rintro r w3 ⟨A, c, P, d, rfl, hl3, hb3⟩)
  have HP := Lib.hid (show Two w (w3.alloc (.cells (objC tagO A c P d) 25)) g1 25 (objC tagO none 0 none 0) w3.heap.size 25 (objC tagO A c P d) from ⟨(HP.out.a.step hb3).alloc _, box_new w3 _ _, (HP.out.below.trans (hb3.mono HP.out.below.size)).alloc (Nat.le_trans HP.out.below.size hb3.size) _⟩)
  have HL := Lib.hid (hl3.step ((Below.refl _ w3).alloc (Nat.le_refl _) (.cells (objC tagO A c P d) 25)))
  generalize w3.alloc (.cells (objC tagO A c P d) 25) = W3 at *
  generalize w3.heap.size = g2 at *
  clear hl3 hb3 c0 c1 c2 c3 c4 c5 c6 c7 c8 c9
  go_upto_region 5 with (go_at_call 12; refine (O3.out _ (HF.out.under _ _ HK.out HP.out.below)).mono ?_; rintro r w4 ⟨A', c', P', d', rfl, hl4, hb4⟩)
  have HP := Lib.hid ((HP.out.step hb4).step ((Below.refl _ w4).alloc (Nat.le_refl _) (.cells (objC zero A' c' P' d') 25)))
  have HL := Lib.hid ((HL.out.step hb4).step ((Below.refl _ w4).alloc (Nat.le_refl _) (.cells (objC zero A' c' P' d') 25)))
  generalize w4.alloc (.cells (objC zero A' c' P' d') 25) = W4 at *
  generalize w4.heap.size = g3 at *
  clear hl4 hb4
  obtain ⟨c0, c1, c2, c3, c4, c5, c6, c7, c8, c9⟩ := HP.out.a.ten
  obtain ⟨d0, d1, d2, d3, d4, d5, d6, d7, d8, d9⟩ := HP.out.b.ten
  have hq : (tagS.toList == tagS.toList) = true := by simp
  have hts : tagS = (⟨#[111, 98, 106, 101, 99, 116, 32, 51, 48, 51, 49, 51, 50, 51, 51, 51, 52, 51, 53, 51, 54, 51, 55, 51, 56, 51, 57, 51, 48, 51, 49, 51, 50, 51, 51, 51, 52, 51, 53, 51, 54, 51, 55, 51, 56, 51, 57, 10, 116, 121, 112, 101, 32, 99, 111, 109, 109, 105, 116, 10, 116, 97, 103, 32, 118, 49, 10, 116, 97, 103, 103, 101, 114, 32, 109, 101, 32, 53, 10, 10, 104, 105]⟩ : ByteArray) := rfl
  go_wp2_with (first
    | (go_at_call 17; with_reducible refine (S1.out _ _ _ _ _ (HF.out.under _ _ HK.out HP.out.below) HL.out).mono ?_; rintro r w5 ⟨rfl, hb5⟩; have HP := Lib.hid (HP.out.step hb5); have HL := Lib.hid (HL.out.step hb5); obtain ⟨c0, c1, c2, c3, c4, c5, c6, c7, c8, c9⟩ := HP.out.a.ten; clear hb5)
    | (go_at_call 17; with_reducible refine (S2.out _ (HF.out.under _ _ HK.out HP.out.below)).mono ?_; rintro r w5 ⟨rfl, hb5⟩; have HP := Lib.hid (HP.out.step hb5); obtain ⟨c0, c1, c2, c3, c4, c5, c6, c7, c8, c9⟩ := HP.out.a.ten; clear hb5)
    | (go_at_call 15; with_reducible refine (R1.out _ (HF.out.under _ _ HK.out HP.out.below)).mono ?_; rintro r w5 ⟨rfl, hb5⟩; have HP := Lib.hid (HP.out.step hb5); have HL := Lib.hid (HL.out.step hb5); obtain ⟨c0, c1, c2, c3, c4, c5, c6, c7, c8, c9⟩ := HP.out.a.ten; clear hb5)
    | (go_at_call 15; with_reducible refine (R2.out _ (HF.out.under _ _ HK.out HP.out.below)).mono ?_; rintro r w5 ⟨rfl, hb5⟩; have HP := Lib.hid (HP.out.step hb5); have HL := Lib.hid (HL.out.step hb5); obtain ⟨c0, c1, c2, c3, c4, c5, c6, c7, c8, c9⟩ := HP.out.a.ten; clear hb5))
  go_ret
  exact ⟨rfl, HP.out.below⟩
end Go.Proofs.YtapjgdhdgpakhaaGreatDoor.Hj
