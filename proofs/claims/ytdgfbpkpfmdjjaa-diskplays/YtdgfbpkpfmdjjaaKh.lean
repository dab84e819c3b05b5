/-
  The program's disk: Rename, Remove (layer 7).
-/
import Derived.Test.YtdgfbpkpfmdjjaaKg
namespace Go.Proofs.Ytdgfbpkpfmdjjaa.Hk
open Go.RowKit Hr Hw Ht
set_option linter.unusedVariables false

set_option maxHeartbeats 4000000 in
set_option maxRecDepth 100000 in
theorem remove_raw (w : World) (b : Nat) (s : Raw) (F : List Nat) (h : RawAt w b s F) (p x : ByteArray) (tk : Int) (hp : p.size ≤ maxLen) (hx : x.size ≤ maxLen) (htk : takes s.seen p ≤ 1000000000) (etk : tk = s.taken - takes s.seen p) (hsm : Small s) (hfit : FitR (waitS s (3, p, x) tk)) :
    Calls Try.prog 32 #[.pointer (some ⟨b, 0, none⟩), .string p] w fun r w' => r = .returned (.int .i64 (effR s false (!(findF s.seen p).isSome) (3, p, x) tk).2) ∧ ∃ F', RawAt w' b (effR s false (!(findF s.seen p).isSome) (3, p, x) tk).1 F' ∧ Turns F F' w w' := by
  obtain ⟨ml, ms, A, c, hi, rfl⟩ := h.is
  have hbl := hi.lt
  have c8 := hi.nine.c8
  have c2 := hi.nine.c2
  have c3 := hi.nine.c3
  have c0 := hi.nine.c0
  have HI := Lib.hid hi
  have HM := Lib.hid hi.2.2.1
  have HAT := Lib.hid h
  have HS := Lib.hid hsm
  have HF := Lib.hid hfit
  have hsz := hsm.seen
  clear hi h hsm hfit
  have HTK := Lib.hid htk
  have hw1 : IntKind.i64.wrap (s.taken - takes s.seen p) = tk := by rw [IntKind.wrap_i64]; have := HS.out.tak0; have := HS.out.tak1; omega
  clear etk htk
  cases hd : s.down
  · rw [hd] at c8
    cases hf : findF s.seen p with
    | none =>
      have e9 : effR s false (!(none : Option ByteArray).isSome) (3, p, x) tk = (s, 5) := by unfold effR; simp [hd]
      have E9 := Lib.hid e9
      clear e9
      go_enter Try.func32, Try.ntmps32
      go_wp2_with (at_lookup; refine wpList_look_none _ rfl _ _ rfl ms s.seen rfl HM.out p rfl hp hf ?_)
      go_ret
      have hb9 : Below w.heap.size w (w.alloc (.cells #[.string ByteArray.empty] 84)) := (Below.refl _ w).alloc (Nat.le_refl _) _
      exact ⟨congrArg (fun x : Raw × Int => Ending.returned (.int .i64 x.2)) E9.out.symm, _, by rw [E9.out]; exact HAT.out.below hb9, turns_in (Turns.of_below hb9) (fun k hk => by cases hk)⟩
    | some u =>
      have e9 : effR s false (!(some u : Option ByteArray).isSome) (3, p, x) tk = cutR (waitS s (3, p, x) tk) := by unfold effR; simp [hd]
      have E9 := Lib.hid e9
      clear e9
      go_enter Try.func32, Try.ntmps32
      go_wp2_with (at_lookup; refine wpList_look_some _ rfl _ _ rfl ms s.seen rfl HM.out p u rfl hp hf ?_; intro hu)
      have hb9 : Below w.heap.size w (w.alloc (.cells #[.string u] 84)).drew := ((Below.refl _ w).alloc (Nat.le_refl _) _).drew
      have HC := Lib.hid (takes_any _ b s _ (HAT.out.below hb9) p hp HTK.out)
      have c3d := (hb9.cell (p := ⟨b, 3, none⟩) hbl).trans c3
      have HB9 := Lib.hid hb9
      clear hb9
      refine wp_region_tree (fun _ => True) (.take 0 0 (.take 1 1 (.take 2 3 (.take 3 7 (.take 4 15 (.take 5 31 (.take 7 63 (.take 8 191 (.fork 6 9 447 (.call 9 511 (.take 10 1023 (.call 11 2047 (.take 12 4095 .done)))) (.call 6 959 (.take 10 1023 (.call 11 2047 (.take 12 4095 .done)))))))))))))
        13 (by kernel_rfl) (by kernel_rfl) (by kernel_rfl) (fun d _ _ _ _ h => by cases d <;> exact h) (by kernel_rfl) trivial ?_
      generalize (w.alloc (.cells #[.string u] 84)).drew = wd at *
      refine trH_take (.pointer (some ⟨b, 0, none⟩)) rfl (Or.inl ⟨by rfl, fun W _ => by go_simp⟩) ?_
      go_simp
      refine trH_take (.string p) rfl (Or.inl ⟨by rfl, fun W _ => by go_simp⟩) ?_
      go_simp
      refine trH_take (.agg #[.int .i64 2, .string p, .string ⟨#[]⟩, .string ⟨#[]⟩]) rfl (Or.inl ⟨by rfl, fun W _ => by go_simp⟩) ?_
      go_simp
      refine trH_take (.pointer (some ⟨b, 0, none⟩)) rfl (Or.inl ⟨by rfl, fun W _ => by go_simp⟩) ?_
      go_simp
      refine trH_take (.pointer (some ⟨b, 0, none⟩)) rfl (Or.inl ⟨by rfl, fun W _ => by go_simp⟩) ?_
      go_simp
      refine trH_take (.pointer (some ⟨b, 3, none⟩)) rfl (Or.inl ⟨by rfl, fun W _ => by go_simp⟩) ?_
      go_simp
      refine trH_take (.pointer (some ⟨b, 0, none⟩)) rfl (Or.inl ⟨by rfl, fun W _ => by go_simp⟩) ?_
      go_simp
      refine trH_take (.string p) rfl (Or.inl ⟨by rfl, fun W _ => by go_simp⟩) ?_
      go_simp
      refine trH_fork rfl (by rfl) rfl (by rfl) (fun K hK => ?_) (fun K hK => ?_)
      · have HK := Lib.hid hK
        clear hK
        go_simp
        refine HK.out _ _ trivial ?_
        clear HK K
        go_simp
        refine trH_call rfl (by rfl) (fun K hK => ?_)
        have HK := Lib.hid hK
        clear hK
        go_simp
        refine HC.out.mono ?_
        rintro r w2 ⟨rfl, hb2⟩
        have hb3 := HB9.out.trans (hb2.mono HB9.out.size)
        have c3' : w2.cell? ⟨b, 3, none⟩ = some (.int .i64 s.taken) := (hb3.cell (p := ⟨b, 3, none⟩) hbl).trans c3
        have HAT2 := Lib.hid (HAT.out.below hb3)
        have HT2 := Lib.hid (turns_in (F := foot b ml ms (.slice A s.first.length c)) (Turns.of_below hb3) (fun k hk => by cases hk))
        have HWT := Lib.hid (wait_any w2 b s _ HAT2.out (3, p, x) tk ⟨hp, hx⟩ (by have := HS.out.seen; omega) ⟨HS.out.wait.1, by have := HS.out.wait.2; omega⟩ HS.out.few HF.out)
        have eV : efV (3, p, x) = .agg #[.int .i64 2, .string p, .string ⟨#[]⟩, .string ⟨#[]⟩] := rfl
        rw [eV] at HWT
        clear hb2 hb3 c0 c2 c3 c8 HB9 eV
        refine HK.out _ _ trivial ?_
        clear HK K
        go_simp
        refine trH_take (.int .i64 tk) rfl (Or.inl ⟨by rfl, fun W _ => by go_simp⟩) ?_
        go_simp
        refine trH_call rfl (by rfl) (fun K hK => ?_)
        have HK := Lib.hid hK
        clear hK
        go_simp
        refine HWT.out.mono ?_
        rintro r w3 ⟨rfl, F3, hr3, ht3⟩
        refine HK.out _ _ trivial ?_
        clear HK K
        go_simp
        refine trH_take (.int .i64 (cutR (waitS s (3, p, x) tk)).2) rfl (Or.inl ⟨by rfl, fun W _ => by go_simp⟩) ?_
        go_simp
        refine trH_done ?_
        go_wp2
        go_ret
        exact ⟨congrArg (fun x : Raw × Int => Ending.returned (.int .i64 x.2)) E9.out.symm, F3, by rw [E9.out]; exact hr3, HT2.out.trans ht3⟩
      · have HK := Lib.hid hK
        clear hK
        go_simp
        refine HC.out.mono ?_
        rintro r w2 ⟨rfl, hb2⟩
        have hb3 := HB9.out.trans (hb2.mono HB9.out.size)
        have c3' : w2.cell? ⟨b, 3, none⟩ = some (.int .i64 s.taken) := (hb3.cell (p := ⟨b, 3, none⟩) hbl).trans c3
        have HAT2 := Lib.hid (HAT.out.below hb3)
        have HT2 := Lib.hid (turns_in (F := foot b ml ms (.slice A s.first.length c)) (Turns.of_below hb3) (fun k hk => by cases hk))
        have HWT := Lib.hid (wait_any w2 b s _ HAT2.out (3, p, x) tk ⟨hp, hx⟩ (by have := HS.out.seen; omega) ⟨HS.out.wait.1, by have := HS.out.wait.2; omega⟩ HS.out.few HF.out)
        have eV : efV (3, p, x) = .agg #[.int .i64 2, .string p, .string ⟨#[]⟩, .string ⟨#[]⟩] := rfl
        rw [eV] at HWT
        clear hb2 hb3 c0 c2 c3 c8 HB9 eV
        refine HK.out _ _ trivial ?_
        clear HK K
        go_simp
        refine trH_call rfl (by rfl) (fun K hK => ?_)
        have HK := Lib.hid hK
        clear hK
        go_simp
        refine HK.out _ _ trivial ?_
        clear HK K
        go_simp
        refine trH_take (.int .i64 tk) rfl (Or.inl ⟨by rfl, fun W _ => by go_simp⟩) ?_
        go_simp
        refine trH_call rfl (by rfl) (fun K hK => ?_)
        have HK := Lib.hid hK
        clear hK
        go_simp
        refine HWT.out.mono ?_
        rintro r w3 ⟨rfl, F3, hr3, ht3⟩
        refine HK.out _ _ trivial ?_
        clear HK K
        go_simp
        refine trH_take (.int .i64 (cutR (waitS s (3, p, x) tk)).2) rfl (Or.inl ⟨by rfl, fun W _ => by go_simp⟩) ?_
        go_simp
        refine trH_done ?_
        go_wp2
        go_ret
        exact ⟨congrArg (fun x : Raw × Int => Ending.returned (.int .i64 x.2)) E9.out.symm, F3, by rw [E9.out]; exact hr3, HT2.out.trans ht3⟩
  · rw [hd] at c8
    have e9 : effR s false (!(findF s.seen p).isSome) (3, p, x) tk = (s, 8) := by unfold effR; simp [hd]
    have E9 := Lib.hid e9
    clear e9
    go_enter Try.func32, Try.ntmps32
    go_wp2
    go_ret
    exact ⟨congrArg (fun x : Raw × Int => Ending.returned (.int .i64 x.2)) E9.out.symm, _, by rw [E9.out]; exact HAT.out, Turns.refl _ _⟩

set_option maxHeartbeats 4000000 in
set_option maxRecDepth 100000 in
theorem rename_raw (w : World) (b : Nat) (s : Raw) (F : List Nat) (h : RawAt w b s F) (p t : ByteArray) (tk : Int) (hp : p.size ≤ maxLen) (ht : t.size ≤ maxLen) (hpz : p.size ≤ 1000000000) (htz : t.size ≤ 1000000000) (htk : takes s.seen t ≤ 1000000000) (etk : tk = s.taken + (if p = t then 0 else (t.size : Int) - p.size - takes s.seen t)) (hsm : Small s) (hfit : FitR (waitS s (2, p, t) tk)) :
    Calls Try.prog 30 #[.pointer (some ⟨b, 0, none⟩), .string p, .string t] w fun r w' => r = .returned (.int .i64 (effR s (!pathB t) (!(findF s.seen p).isSome) (2, p, t) tk).2) ∧ ∃ F', RawAt w' b (effR s (!pathB t) (!(findF s.seen p).isSome) (2, p, t) tk).1 F' ∧ Turns F F' w w' := by
  obtain ⟨ml, ms, A, c, hi, rfl⟩ := h.is
  have hbl := hi.lt
  have c8 := hi.nine.c8
  have c2 := hi.nine.c2
  have c3 := hi.nine.c3
  have c0 := hi.nine.c0
  have HI := Lib.hid hi
  have HM := Lib.hid hi.2.2.1
  have HAT := Lib.hid h
  have HS := Lib.hid hsm
  have HF := Lib.hid hfit
  have hsz := hsm.seen
  clear hi h hsm hfit
  have HTK := Lib.hid htk
  have ETK := Lib.hid etk
  clear etk htk
  cases hd : s.down
  · rw [hd] at c8
    have HP := Lib.hid (isPath_any w t ht)
    cases hpb : pathB t
    · rw [hpb] at HP
      have e9 : effR s (!false) (!(findF s.seen p).isSome) (2, p, t) tk = (s, 12) := by unfold effR; simp [hd]
      have E9 := Lib.hid e9
      clear e9
      go_enter Try.func30, Try.ntmps30
      go_wp2_with (go_at_call 43; refine HP.out.mono ?_; rintro r w ⟨rfl, rfl⟩)
      go_ret
      exact ⟨congrArg (fun x : Raw × Int => Ending.returned (.int .i64 x.2)) E9.out.symm, _, by rw [E9.out]; exact HAT.out, Turns.refl _ _⟩
    · rw [hpb] at HP
      cases hf : findF s.seen p with
      | none =>
        have e9 : effR s (!true) (!(none : Option ByteArray).isSome) (2, p, t) tk = (s, 5) := by unfold effR; simp [hd]
        have E9 := Lib.hid e9
        clear e9
        go_enter Try.func30, Try.ntmps30
        go_wp2_with fail
        refine HP.out.mono ?_
        rintro r w ⟨rfl, rfl⟩
        go_wp2_with (at_lookup; refine wpList_look_none _ rfl _ _ rfl ms s.seen rfl HM.out p rfl hp hf ?_)
        go_ret
        have hb9 : Below w.heap.size w (w.alloc (.cells #[.string ByteArray.empty] 84)) := (Below.refl _ w).alloc (Nat.le_refl _) _
        exact ⟨congrArg (fun x : Raw × Int => Ending.returned (.int .i64 x.2)) E9.out.symm, _, by rw [E9.out]; exact HAT.out.below hb9, turns_in (Turns.of_below hb9) (fun k hk => by cases hk)⟩
      | some u =>
        show Calls _ _ _ _ fun r w' => r = .returned (.int .i64 (effR s false false (2, p, t) tk).2) ∧ ∃ F', RawAt w' b (effR s false false (2, p, t) tk).1 F' ∧ Turns _ F' w w'
        by_cases hpt : p = t
        · subst hpt
          obtain rfl : tk = s.taken := by have := ETK.out; simp at this; exact this
          generalize hTk : s.taken = tk at *
          go_enter Try.func30, Try.ntmps30
          go_wp2_with fail
          refine HP.out.mono ?_
          rintro r w ⟨rfl, rfl⟩
          have hb9 : Below w.heap.size w (w.alloc (.cells #[.string u] 84)) := (Below.refl _ w).alloc (Nat.le_refl _) _
          have HAT2 := Lib.hid (HAT.out.below hb9)
          have HT2 := Lib.hid (turns_in (F := foot b ml ms (.slice A s.first.length c)) (Turns.of_below hb9) (fun k hk => by cases hk))
          have HWT := Lib.hid (wait_any _ b s _ HAT2.out (2, p, p) tk ⟨hp, hp⟩ (by have := HS.out.seen; omega) ⟨HS.out.wait.1, by have := HS.out.wait.2; omega⟩ HS.out.few HF.out)
          clear hb9
          by_cases hr : s.room < tk
          · have hrd : decide (s.room < tk) = true := decide_eq_true hr
            have e9 : effR s false false (2, p, p) tk = (s, 7) := by unfold effR; simp [hd, hr]
            have E9 := Lib.hid e9
            clear e9
            go_wp2_with (at_lookup; refine wpList_look_some _ rfl _ _ rfl ms s.seen rfl HM.out p u rfl hp hf ?_; intro hu)
            go_ret
            exact ⟨congrArg (fun x : Raw × Int => Ending.returned (.int .i64 x.2)) E9.out.symm, _, by rw [E9.out]; exact HAT2.out, HT2.out⟩
          · have hrd : decide (s.room < tk) = false := decide_eq_false hr
            have hrr : tk ≤ s.room := by omega
            have e9 : effR s false false (2, p, p) tk = cutR (waitS s (2, p, p) tk) := by unfold effR; simp [hd, hr]
            have E9 := Lib.hid e9
            clear e9
            go_wp2_with (at_lookup; refine wpList_look_some _ rfl _ _ rfl ms s.seen rfl HM.out p u rfl hp hf ?_; intro hu)
            refine HWT.out.mono ?_
            rintro r w3 ⟨rfl, F3, hr3, ht3⟩
            go_wp2
            go_ret
            exact ⟨congrArg (fun x : Raw × Int => Ending.returned (.int .i64 x.2)) E9.out.symm, F3, by rw [E9.out]; exact hr3, HT2.out.trans ht3⟩
        · have etk := ETK.out
          rw [if_neg hpt] at etk
          have hw1 : IntKind.i64.wrap ((t.size : Int) - p.size) = (t.size : Int) - p.size := by rw [IntKind.wrap_i64]; omega
          have hw2 : IntKind.i64.wrap ((t.size : Int) - p.size - takes s.seen t) = (t.size : Int) - p.size - takes s.seen t := by rw [IntKind.wrap_i64]; have := HTK.out; omega
          have hw3 : IntKind.i64.wrap (s.taken + ((t.size : Int) - p.size - takes s.seen t)) = tk := by rw [IntKind.wrap_i64]; have := HTK.out; have := HS.out.tak0; have := HS.out.tak1; omega
          have hn1 : (p.toList == t.toList) = false := by rw [data_toList, data_toList, beq_eq_false_iff_ne]; exact fun e => hpt (WideShapes.bytes_inj e)
          have hn2 : (p.toList = t.toList) = False := eq_false (by rw [data_toList, data_toList]; exact fun e => hpt (WideShapes.bytes_inj e))
          clear etk hpt ETK
          go_enter Try.func30, Try.ntmps30
          go_wp2_with fail
          refine HP.out.mono ?_
          rintro r w ⟨rfl, rfl⟩
          have hb9 : Below w.heap.size w (w.alloc (.cells #[.string u] 84)) := (Below.refl _ w).alloc (Nat.le_refl _) _
          have HC := Lib.hid (takes_any _ b s _ (HAT.out.below hb9) t ht HTK.out)
          have HB9 := Lib.hid hb9
          clear hb9
          go_wp2_with (at_lookup; refine wpList_look_some _ rfl _ _ rfl ms s.seen rfl HM.out p u rfl hp hf ?_; intro hu)
          refine HC.out.mono ?_
          rintro r w2 ⟨rfl, hb2⟩
          have hb3 := HB9.out.trans (hb2.mono HB9.out.size)
          have c0' : w2.cell? ⟨b, 0, none⟩ = some (.int .i64 s.room) := (hb3.cell (p := ⟨b, 0, none⟩) hbl).trans c0
          have HAT2 := Lib.hid (HAT.out.below hb3)
          have HT2 := Lib.hid (turns_in (F := foot b ml ms (.slice A s.first.length c)) (Turns.of_below hb3) (fun k hk => by cases hk))
          have HWT := Lib.hid (wait_any w2 b s _ HAT2.out (2, p, t) tk ⟨hp, ht⟩ (by have := HS.out.seen; omega) ⟨HS.out.wait.1, by have := HS.out.wait.2; omega⟩ HS.out.few HF.out)
          clear hb2 hb3 c0 c2 c3 c8 HB9
          by_cases hr : s.room < tk
          · have hrd : decide (s.room < tk) = true := decide_eq_true hr
            have e9 : effR s false false (2, p, t) tk = (s, 7) := by unfold effR; simp [hd, hr]
            have E9 := Lib.hid e9
            clear e9
            go_wp2
            go_ret
            exact ⟨congrArg (fun x : Raw × Int => Ending.returned (.int .i64 x.2)) E9.out.symm, _, by rw [E9.out]; exact HAT2.out, HT2.out⟩
          · have hrd : decide (s.room < tk) = false := decide_eq_false hr
            have hrr : tk ≤ s.room := by omega
            have e9 : effR s false false (2, p, t) tk = cutR (waitS s (2, p, t) tk) := by unfold effR; simp [hd, hr]
            have E9 := Lib.hid e9
            clear e9
            go_wp2_with fail
            refine HWT.out.mono ?_
            rintro r w3 ⟨rfl, F3, hr3, ht3⟩
            go_wp2
            go_ret
            exact ⟨congrArg (fun x : Raw × Int => Ending.returned (.int .i64 x.2)) E9.out.symm, F3, by rw [E9.out]; exact hr3, HT2.out.trans ht3⟩
  · rw [hd] at c8
    have e9 : effR s (!pathB t) (!(findF s.seen p).isSome) (2, p, t) tk = (s, 8) := by unfold effR; simp [hd]
    have E9 := Lib.hid e9
    clear e9
    go_enter Try.func30, Try.ntmps30
    go_wp2
    go_ret
    exact ⟨congrArg (fun x : Raw × Int => Ending.returned (.int .i64 x.2)) E9.out.symm, _, by rw [E9.out]; exact HAT.out, Turns.refl _ _⟩
end Go.Proofs.Ytdgfbpkpfmdjjaa.Hk
