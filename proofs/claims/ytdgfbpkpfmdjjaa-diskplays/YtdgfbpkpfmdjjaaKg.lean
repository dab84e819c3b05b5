/-
  The program's disk: Write, Rename, Remove (layer 7).
-/
import Derived.Test.YtdgfbpkpfmdjjaaKf
namespace Go.Proofs.Ytdgfbpkpfmdjjaa.Hk
open Go.RowKit Hr Hw Ht
set_option linter.unusedVariables false

/-- what Write, Rename, Remove do: the effect, and what the disk then takes -/
def effR (s : Raw) (bad lack : Bool) (e : Ef) (tk : Int) : Raw × Int :=
  if s.down = true then (s, 8) else if bad = true then (s, 12) else if lack = true then (s, 5) else if decide (e.1 ≠ 3) = true ∧ s.room < tk then (s, 7) else cutR (waitS s e tk)
/-- all is small enough -/
structure Small (s : Raw) : Prop where
  seen : s.seen.length ≤ 4000
  tak0 : 0 ≤ s.taken
  tak1 : s.taken ≤ 1000000000
  wait : 0 ≤ s.waiting ∧ s.waiting ≤ 1000000
  few : s.first.length ≤ 64

set_option maxHeartbeats 4000000 in
set_option maxRecDepth 100000 in
theorem write_raw (w : World) (b : Nat) (s : Raw) (F : List Nat) (h : RawAt w b s F) (p t : ByteArray) (tk : Int) (hp : p.size ≤ maxLen) (ht : t.size ≤ maxLen) (hpz : p.size ≤ 1000000000) (htz : t.size ≤ 1000000000) (htk : takes s.seen p ≤ 1000000000) (etk : tk = s.taken - takes s.seen p + p.size + t.size) (hsm : Small s) (hfit : FitR (waitS s (1, p, t) tk)) :
    Calls Try.prog 31 #[.pointer (some ⟨b, 0, none⟩), .string p, .string t] w fun r w' => r = .returned (.int .i64 (effR s (!pathB p) false (1, p, t) tk).2) ∧ ∃ F', RawAt w' b (effR s (!pathB p) false (1, p, t) tk).1 F' ∧ Turns F F' w w' := by
  obtain ⟨ml, ms, A, c, hi, rfl⟩ := h.is
  have hbl := hi.lt
  have c8 := hi.nine.c8
  have c2 := hi.nine.c2
  have c3 := hi.nine.c3
  have c0 := hi.nine.c0
  have HI := Lib.hid hi
  have HM := Lib.hid hi.2.2.1
  have HAT := Lib.hid h
  have HS := Lib.hid hsm
  have HF := Lib.hid hfit
  have hsz := hsm.seen
  clear hi h hsm hfit
  have HTK := Lib.hid htk
  have hw1 : IntKind.i64.wrap (s.taken - takes s.seen p) = s.taken - takes s.seen p := by rw [IntKind.wrap_i64]; have := HS.out.tak0; have := HS.out.tak1; omega
  have hw2 : IntKind.i64.wrap (s.taken - takes s.seen p + p.size) = s.taken - takes s.seen p + p.size := by rw [IntKind.wrap_i64]; have := HS.out.tak0; have := HS.out.tak1; omega
  have hw3 : IntKind.i64.wrap (s.taken - takes s.seen p + p.size + t.size) = tk := by rw [IntKind.wrap_i64]; have := HS.out.tak0; have := HS.out.tak1; omega
  have hw4 : IntKind.i64.wrap ((s.seen.length : Int) + 1) = (s.seen.length : Int) + 1 := by rw [IntKind.wrap_i64]; omega
  have hw5 : ¬ (4096 : Int) < (s.seen.length : Int) := by omega
  have hw6 : ¬ (4096 : Int) < (s.seen.length : Int) + 1 := by omega
  clear etk htk
  cases hd : s.down
  · rw [hd] at c8
    have HP := Lib.hid (isPath_any w p hp)
    cases hpb : pathB p
    · rw [hpb] at HP
      have e9 : effR s (!false) false (1, p, t) tk = (s, 12) := by unfold effR; simp [hd]
      have E9 := Lib.hid e9
      clear e9
      go_enter Try.func31, Try.ntmps31
      go_wp2_with (go_at_call 43; refine HP.out.mono ?_; rintro r w ⟨rfl, rfl⟩)
      go_ret
      exact ⟨congrArg (fun x : Raw × Int => Ending.returned (.int .i64 x.2)) E9.out.symm, _, by rw [E9.out]; exact HAT.out, Turns.refl _ _⟩
    · rw [hpb] at HP
      show Calls _ _ _ _ fun r w' => r = .returned (.int .i64 (effR s false false (1, p, t) tk).2) ∧ ∃ F', RawAt w' b (effR s false false (1, p, t) tk).1 F' ∧ Turns _ F' w w'
      cases hf : findF s.seen p with
      | none =>
        go_enter Try.func31, Try.ntmps31
        go_wp2_with fail
        refine HP.out.mono ?_
        rintro r w ⟨rfl, rfl⟩
        go_wp2_with (first | (at_lookup; refine wpList_look_none _ rfl _ _ rfl ms s.seen rfl HM.out p rfl hp hf ?_) | (at_len; refine wpList_len_file _ rfl _ rfl ms s.seen rfl HM.out ?_))
        have hb1 : Below w.heap.size w (w.alloc (.cells #[.string ByteArray.empty] 84)).drew := ((Below.refl _ w).alloc (Nat.le_refl _) _).drew
        refine wp_region_seq (fun W => W.cell? ⟨b, 3, none⟩ = some (.int .i64 s.taken)) [(0, false, 0), (1, false, 1), (2, false, 3), (3, false, 7), (4, false, 15), (5, false, 31), (8, false, 63), (9, false, 319), (11, false, 831), (12, false, 2879), (6, true, 6975), (7, false, 7039), (10, false, 7167), (13, false, 8191), (14, false, 16383)]
          15 (by kernel_rfl) (by kernel_rfl) (by kernel_rfl) (fun d _ _ _ _ h => by cases d <;> exact h) (by kernel_rfl) (by kernel_rfl) ((hb1.cell (p := ⟨b, 3, none⟩) hbl).trans c3) ?_
        have HB1 := Lib.hid hb1
        have HC := Lib.hid (takes_any _ b s _ (HAT.out.below hb1) p hp HTK.out)
        clear hb1
        generalize (w.alloc (.cells #[.string ByteArray.empty] 84)).drew = wd at *
        refine seqH_take (.pointer (some ⟨b, 0, none⟩)) rfl (Or.inl ⟨by rfl, fun W _ => by go_simp⟩) ?_
        go_simp
        refine seqH_take (.pointer (some ⟨b, 0, none⟩)) rfl (Or.inl ⟨by rfl, fun W _ => by go_simp⟩) ?_
        go_simp
        refine seqH_take (.pointer (some ⟨b, 3, none⟩)) rfl (Or.inl ⟨by rfl, fun W _ => by go_simp⟩) ?_
        go_simp
        refine seqH_take (.int .i64 s.taken) rfl (Or.inl ⟨by rfl, fun W hW => by go_simp⟩) ?_
        go_simp
        refine seqH_take (.pointer (some ⟨b, 0, none⟩)) rfl (Or.inl ⟨by rfl, fun W _ => by go_simp⟩) ?_
        go_simp
        refine seqH_take (.string p) rfl (Or.inl ⟨by rfl, fun W _ => by go_simp⟩) ?_
        go_simp
        refine seqH_take (.string p) rfl (Or.inl ⟨by rfl, fun W _ => by go_simp⟩) ?_
        go_simp
        refine seqH_take (.int .i64 p.size) rfl (Or.inl ⟨by rfl, fun W _ => by go_simp⟩) ?_
        go_simp
        refine seqH_take (.string t) rfl (Or.inl ⟨by rfl, fun W _ => by go_simp⟩) ?_
        go_simp
        refine seqH_take (.int .i64 t.size) rfl (Or.inl ⟨by rfl, fun W _ => by go_simp⟩) ?_
        go_simp
        refine seqH_call rfl (by rfl) (fun K hK => ?_)
        have HK := Lib.hid hK
        clear hK
        go_simp
        refine HC.out.mono ?_
        rintro r w2 ⟨rfl, hb2⟩
        have hb3 := HB1.out.trans (hb2.mono HB1.out.size)
        have HB3 := Lib.hid hb3
        have hb3c : ∀ i, w2.cell? ⟨b, i, none⟩ = w.cell? ⟨b, i, none⟩ := fun i => hb3.cell (p := ⟨b, i, none⟩) hbl
        have c3' := (hb3c 3).trans c3
        have c0' := (hb3c 0).trans c0
        clear hb2 hb3 hb3c
        refine HK.out _ _ c3' ?_
        clear HK K
        go_simp
        refine seqH_take (.int .i64 (s.taken - takes s.seen p)) rfl (Or.inl ⟨by rfl, fun W _ => by go_simp⟩) ?_
        go_simp
        refine seqH_take (.int .i64 (s.taken - takes s.seen p + p.size)) rfl (Or.inl ⟨by rfl, fun W _ => by go_simp⟩) ?_
        go_simp
        refine seqH_take (.int .i64 tk) rfl (Or.inl ⟨by rfl, fun W _ => by go_simp⟩) ?_
        go_simp
        refine seqH_take (.int .i64 tk) rfl (Or.inl ⟨by rfl, fun W _ => by go_simp⟩) ?_
        go_simp
        refine seqH_done ?_
        have HAT2 := Lib.hid (HAT.out.below HB3.out)
        have HT2 := Lib.hid (turns_in (F := foot b ml ms (.slice A s.first.length c)) (Turns.of_below HB3.out) (fun k hk => by cases hk))
        have HWT := Lib.hid (wait_any w2 b s _ HAT2.out (1, p, t) tk ⟨hp, ht⟩ (by have := HS.out.seen; omega) ⟨HS.out.wait.1, by have := HS.out.wait.2; omega⟩ HS.out.few HF.out)
        clear c3 c0 c2 c8
        by_cases hr : s.room < tk
        · have e9 : effR s false false (1, p, t) tk = (s, 7) := by unfold effR; simp [hd, hr]
          have E9 := Lib.hid e9
          clear e9
          have hrd : decide (s.room < tk) = true := decide_eq_true hr
          go_wp2
          go_ret
          exact ⟨congrArg (fun x : Raw × Int => Ending.returned (.int .i64 x.2)) E9.out.symm, _, by rw [E9.out]; exact HAT2.out, HT2.out⟩
        · have e9 : effR s false false (1, p, t) tk = cutR (waitS s (1, p, t) tk) := by unfold effR; simp [hd, hr]
          have E9 := Lib.hid e9
          clear e9
          have hrd : decide (s.room < tk) = false := decide_eq_false hr
          have hrr : tk ≤ s.room := by omega
          go_wp2_with fail
          refine HWT.out.mono ?_
          rintro r w3 ⟨rfl, F3, hr3, ht3⟩
          go_wp2
          go_ret
          exact ⟨congrArg (fun x : Raw × Int => Ending.returned (.int .i64 x.2)) E9.out.symm, F3, by rw [E9.out]; exact hr3, HT2.out.trans ht3⟩
      | some u =>
        go_enter Try.func31, Try.ntmps31
        go_wp2_with fail
        refine HP.out.mono ?_
        rintro r w ⟨rfl, rfl⟩
        go_wp2_with (first | (at_lookup; refine wpList_look_some _ rfl _ _ rfl ms s.seen rfl HM.out p u rfl hp hf ?_; intro hu) | (at_len; refine wpList_len_file _ rfl _ rfl ms s.seen rfl HM.out ?_))
        have hb1 : Below w.heap.size w (w.alloc (.cells #[.string u] 84)).drew := ((Below.refl _ w).alloc (Nat.le_refl _) _).drew
        refine wp_region_seq (fun W => W.cell? ⟨b, 3, none⟩ = some (.int .i64 s.taken)) [(0, false, 0), (1, false, 1), (2, false, 3), (3, false, 7), (4, false, 15), (5, false, 31), (8, false, 63), (9, false, 319), (11, false, 831), (12, false, 2879), (6, true, 6975), (7, false, 7039), (10, false, 7167), (13, false, 8191), (14, false, 16383)]
          15 (by kernel_rfl) (by kernel_rfl) (by kernel_rfl) (fun d _ _ _ _ h => by cases d <;> exact h) (by kernel_rfl) (by kernel_rfl) ((hb1.cell (p := ⟨b, 3, none⟩) hbl).trans c3) ?_
        have HB1 := Lib.hid hb1
        have HC := Lib.hid (takes_any _ b s _ (HAT.out.below hb1) p hp HTK.out)
        clear hb1
        generalize (w.alloc (.cells #[.string u] 84)).drew = wd at *
        refine seqH_take (.pointer (some ⟨b, 0, none⟩)) rfl (Or.inl ⟨by rfl, fun W _ => by go_simp⟩) ?_
        go_simp
        refine seqH_take (.pointer (some ⟨b, 0, none⟩)) rfl (Or.inl ⟨by rfl, fun W _ => by go_simp⟩) ?_
        go_simp
        refine seqH_take (.pointer (some ⟨b, 3, none⟩)) rfl (Or.inl ⟨by rfl, fun W _ => by go_simp⟩) ?_
        go_simp
        refine seqH_take (.int .i64 s.taken) rfl (Or.inl ⟨by rfl, fun W hW => by go_simp⟩) ?_
        go_simp
        refine seqH_take (.pointer (some ⟨b, 0, none⟩)) rfl (Or.inl ⟨by rfl, fun W _ => by go_simp⟩) ?_
        go_simp
        refine seqH_take (.string p) rfl (Or.inl ⟨by rfl, fun W _ => by go_simp⟩) ?_
        go_simp
        refine seqH_take (.string p) rfl (Or.inl ⟨by rfl, fun W _ => by go_simp⟩) ?_
        go_simp
        refine seqH_take (.int .i64 p.size) rfl (Or.inl ⟨by rfl, fun W _ => by go_simp⟩) ?_
        go_simp
        refine seqH_take (.string t) rfl (Or.inl ⟨by rfl, fun W _ => by go_simp⟩) ?_
        go_simp
        refine seqH_take (.int .i64 t.size) rfl (Or.inl ⟨by rfl, fun W _ => by go_simp⟩) ?_
        go_simp
        refine seqH_call rfl (by rfl) (fun K hK => ?_)
        have HK := Lib.hid hK
        clear hK
        go_simp
        refine HC.out.mono ?_
        rintro r w2 ⟨rfl, hb2⟩
        have hb3 := HB1.out.trans (hb2.mono HB1.out.size)
        have HB3 := Lib.hid hb3
        have hb3c : ∀ i, w2.cell? ⟨b, i, none⟩ = w.cell? ⟨b, i, none⟩ := fun i => hb3.cell (p := ⟨b, i, none⟩) hbl
        have c3' := (hb3c 3).trans c3
        have c0' := (hb3c 0).trans c0
        clear hb2 hb3 hb3c
        refine HK.out _ _ c3' ?_
        clear HK K
        go_simp
        refine seqH_take (.int .i64 (s.taken - takes s.seen p)) rfl (Or.inl ⟨by rfl, fun W _ => by go_simp⟩) ?_
        go_simp
        refine seqH_take (.int .i64 (s.taken - takes s.seen p + p.size)) rfl (Or.inl ⟨by rfl, fun W _ => by go_simp⟩) ?_
        go_simp
        refine seqH_take (.int .i64 tk) rfl (Or.inl ⟨by rfl, fun W _ => by go_simp⟩) ?_
        go_simp
        refine seqH_take (.int .i64 tk) rfl (Or.inl ⟨by rfl, fun W _ => by go_simp⟩) ?_
        go_simp
        refine seqH_done ?_
        have HAT2 := Lib.hid (HAT.out.below HB3.out)
        have HT2 := Lib.hid (turns_in (F := foot b ml ms (.slice A s.first.length c)) (Turns.of_below HB3.out) (fun k hk => by cases hk))
        have HWT := Lib.hid (wait_any w2 b s _ HAT2.out (1, p, t) tk ⟨hp, ht⟩ (by have := HS.out.seen; omega) ⟨HS.out.wait.1, by have := HS.out.wait.2; omega⟩ HS.out.few HF.out)
        clear c3 c0 c2 c8
        by_cases hr : s.room < tk
        · have e9 : effR s false false (1, p, t) tk = (s, 7) := by unfold effR; simp [hd, hr]
          have E9 := Lib.hid e9
          clear e9
          have hrd : decide (s.room < tk) = true := decide_eq_true hr
          go_wp2
          go_ret
          exact ⟨congrArg (fun x : Raw × Int => Ending.returned (.int .i64 x.2)) E9.out.symm, _, by rw [E9.out]; exact HAT2.out, HT2.out⟩
        · have e9 : effR s false false (1, p, t) tk = cutR (waitS s (1, p, t) tk) := by unfold effR; simp [hd, hr]
          have E9 := Lib.hid e9
          clear e9
          have hrd : decide (s.room < tk) = false := decide_eq_false hr
          have hrr : tk ≤ s.room := by omega
          go_wp2_with fail
          refine HWT.out.mono ?_
          rintro r w3 ⟨rfl, F3, hr3, ht3⟩
          go_wp2
          go_ret
          exact ⟨congrArg (fun x : Raw × Int => Ending.returned (.int .i64 x.2)) E9.out.symm, F3, by rw [E9.out]; exact hr3, HT2.out.trans ht3⟩
  · rw [hd] at c8
    have e9 : effR s (!pathB p) false (1, p, t) tk = (s, 8) := by unfold effR; simp [hd]
    have E9 := Lib.hid e9
    clear e9
    go_enter Try.func31, Try.ntmps31
    go_wp2
    go_ret
    exact ⟨congrArg (fun x : Raw × Int => Ending.returned (.int .i64 x.2)) E9.out.symm, _, by rw [E9.out]; exact HAT.out, Turns.refl _ _⟩
end Go.Proofs.Ytdgfbpkpfmdjjaa.Hk
