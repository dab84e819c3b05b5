/-
  The program's disk: Sync, New (layer 7).
-/
import Derived.Test.YtdgfbpkpfmdjjaaKh
namespace Go.Proofs.Ytdgfbpkpfmdjjaa.Hk
open Go.RowKit Hr Hw Ht
set_option linter.unusedVariables false

def doneR (s : Raw) : Raw := { s with left := if s.left = 0 then 0 else s.left - 1, lie := if s.waiting = s.first.length then seenF s.lie s.first else s.seen, first := [], waiting := 0 }
def syncR (s : Raw) : Raw × Int := if s.down = true then (s, 8) else if s.left = 1 then (failR { s with left := 0 }, 8) else (doneR s, 0)

set_option maxHeartbeats 4000000 in
set_option maxRecDepth 100000 in
theorem sync_raw (w : World) (b : Nat) (s : Raw) (F : List Nat) (h : RawAt w b s F) (hf : FitR s) :
    Calls Try.prog 24 #[.pointer (some ⟨b, 0, none⟩)] w fun r w' => r = .returned (.int .i64 (syncR s).2) ∧ ∃ F', RawAt w' b (syncR s).1 F' ∧ Turns F F' w w' ∧ ((syncR s).2 = 0 → F'.length = 3) := by
  obtain ⟨ml, ms, A, c, hi, rfl⟩ := h.is
  have hbl := hi.lt
  have c8 := hi.nine.c8
  have HAT := Lib.hid h
  have HF := Lib.hid hf
  have HC := Lib.hid (cut_any w b s _ h hf)
  clear h hf hi
  cases hd : s.down
  · rw [hd] at c8
    by_cases hl1 : s.left = 1
    · have hd1 : decide (s.left = 1) = true := decide_eq_true hl1
      have e9 : syncR s = (failR { s with left := 0 }, 8) := by unfold syncR; simp [hd, hl1]
      have E9 := Lib.hid e9
      clear e9
      go_enter Try.func24, Try.ntmps24
      go_wp2_with fail
      refine HC.out.mono ?_
      rintro r w5 ⟨rfl, hr5, ht5⟩
      have hr6 : RawAt w5 b { s with left := 0 } (foot b ml ms (.slice A s.first.length c)) := by have h9 := hr5; simp only [hl1] at h9; exact h9
      have HX := Lib.hid (fail_any w5 b _ _ hr6 (Nat.le_trans HF.out.len (by omega)) HF.out.few HF.out.k0 HF.out.k1 HF.out.tak HF.out.eok)
      have HT6 := Lib.hid ht5
      clear hr5 hr6 ht5 HC
      simp only [hd1]
      go_wp2_with fail
      refine HX.out.mono ?_
      rintro r w7 ⟨rfl, F7, hr7, ht7⟩
      go_wp2
      go_ret
      exact ⟨congrArg (fun x : Raw × Int => Ending.returned (.int .i64 x.2)) E9.out.symm, F7, by rw [E9.out]; exact hr7, HT6.out.trans ht7, fun h9 => by rw [E9.out] at h9; cases h9⟩
    · have hd1 : decide (s.left = 1) = false := decide_eq_false hl1
      have e9 : syncR s = (doneR s, 0) := by unfold syncR; simp [hd, hl1]
      have E9 := Lib.hid e9
      clear e9
      go_enter Try.func24, Try.ntmps24
      go_wp2_with fail
      refine HC.out.mono ?_
      rintro r w5 ⟨rfl, hr5, ht5⟩
      obtain ⟨lf, hlf⟩ : ∃ lf : Int, (if s.left = 0 then 0 else s.left - 1) = lf := ⟨_, rfl⟩
      rw [hlf] at hr5
      have HLF := Lib.hid hlf
      obtain ⟨ml', ms', A', c', hi5, hft⟩ := hr5.is
      have HFT := Lib.hid (show foot b ml ms (.slice A s.first.length c) = foot b ml' ms' (.slice A' s.first.length c') from hft)
      have HI5 := Lib.hid (And.intro hi5 ht5)
      have k5 := hi5.nine.c5
      have k4 := hi5.nine.c4
      have hb5 := hi5.lt
      simp only at k5 k4
      clear hr5 ht5 HC hi5 hft hlf
      simp only [hd1]
      go_wp2_with fail
      refine wp_region_still_lit (by kernel_rfl) (by kernel_rfl) ?_
      change wpStill _ _ (World.drew _) (fun a' => _) _ _
      iterate 10 still_step
      refine wpStill_nil ?_
      change Exit.then _ _ _ _ (World.drew w5)
      have hbd : Below w5.heap.size w5 w5.drew := (Below.refl _ w5).drew
      have HI6 := Lib.hid (And.intro (HI5.out.1.below hbd) HI5.out.2.drew)
      have j4 := HI6.out.1.nine.c4
      have j2 := HI6.out.1.nine.c2
      have j5 := HI6.out.1.nine.c5
      have f1 := HI6.out.1.unf 1
      have f4 := HI6.out.1.unf 4
      have f5 := HI6.out.1.unf 5
      have hbw := HI6.out.1.lt
      have j1 := HI6.out.1.nine.c1
      try simp only at j4 j2 j5 j1
      clear hbd k5 k4 hb5
      generalize w5.drew = wd at *
      clear HI5
      by_cases hq : s.waiting = s.first.length
      · have hqd : (s.waiting == (s.first.length : Int)) = true := by simpa using hq
        have HQ := Lib.hid hq
        clear hq
        rw [hqd]
        go_wp2
        go_loopg [28] s.first.length (fun g i wr => ∃ k : Nat, k ≤ s.first.length ∧ g = s.first.length - k ∧ i = .int .i64 k ∧ RawIs wr b ⟨s.room, seenF s.lie (s.first.take k), s.seen, s.taken, s.first, s.waiting, lf, s.keep, s.down⟩ ml' ms' A' c' ∧ Turns (foot b ml ms (.slice A s.first.length c)) (foot b ml ms (.slice A s.first.length c)) w wr)
        case atStart => exact ⟨0, Nat.zero_le _, rfl, rfl, by simpa [seenF] using HI6.out.1, HI6.out.2⟩
        case round =>
          obtain ⟨k, hk, rfl, rfl, hi, htn⟩ := hrel
          have hfw : s.first.length ≤ 64 := HF.out.few
          by_cases hlt : k < s.first.length
          · have h1 : (k : Int) < s.first.length := by omega
            have h0 : (0 : Int) ≤ k := by omega
            have k1 := hi.nine.c1
            try simp only at k1
            obtain ⟨ad, rfl, hB1, hcc⟩ := hi.recs k hlt
            have e0 : wr.cell? (ad.add (k * 4)) = some (.int .i64 (kd (s.first.getD k default))) := hcc 0 (by omega)
            have e1 : wr.cell? ⟨(ad.add (k * 4)).block, (ad.add (k * 4)).off + 1, none⟩ = some (.string (s.first.getD k default).2.1) := hcc 1 (by omega)
            have e2 : wr.cell? ⟨(ad.add (k * 4)).block, (ad.add (k * 4)).off + 2, none⟩ = some (.string (toS (s.first.getD k default))) := hcc 2 (by omega)
            have e3 : wr.cell? ⟨(ad.add (k * 4)).block, (ad.add (k * 4)).off + 3, none⟩ = some (.string (teS (s.first.getD k default))) := hcc 3 (by omega)
            have hx : EfOk (s.first.getD k default) := HF.out.eok _ (by rw [List.getD_eq_getElem?_getD, List.getElem?_eq_getElem hlt]; simp)
            have HS2 := Lib.hid (seenF_succ (l := s.lie) (rs := s.first) hlt)
            have hsl := seenF_len (s.first.take k) s.lie
            have hsl2 : (seenF s.lie (s.first.take k)).length ≤ 2900 := by
              have := HF.out.len
              rw [List.length_take] at hsl
              omega
            have HI := Lib.hid (And.intro hi htn)
            have hbl9 := hi.lt
            generalize s.first.getD k default = x at *
            have HX := Lib.hid hx
            have HSL := Lib.hid hsl2
            clear hi htn hcc hx hsl hsl2
            go_wp2_with fail
            have hbe : Below wr.heap.size wr ((wr.alloc (.cells #[.int .i64 (kd x), .string x.2.1, .string (toS x), .string (teS x)] 80)).drew) := ((Below.refl _ wr).alloc (Nat.le_refl _) _).drew
            have hI1 := HI.out.1.below hbe
            have HD := Lib.hid (edo_any _ ml' _ x hI1.2.1 (by have := HSL.out; simp only; omega) HX.out)
            have hT1 := (HI.out.2.alloc (.cells #[.int .i64 (kd x), .string x.2.1, .string (toS x), .string (teS x)] 80)).drew
            have HI1 := Lib.hid (And.intro hI1 hT1)
            clear hI1 hT1 HI hbe
            refine wp_region_still_tail 5 (by kernel_rfl) (by kernel_rfl) ?_
            simp only [List.take_succ_cons, List.take_zero, List.drop_succ_cons, List.drop_zero]
            change wpStill _ _ (World.drew _) (fun a' => wpList _ _ _ _ a' (World.drew _)) _ _
            iterate 5 still_step
            refine wpStill_nil ?_
            go_wp2_with (go_at_call 38; refine HD.out.mono ?_; rintro r w4 ⟨rfl, hm4, ht4⟩)
            go_roundg (s.first.length - (k + 1))
            case rel => exact ⟨k + 1, by omega, rfl, by go_num, by rw [HS2.out]; exact HI1.out.1.lieTo hm4 ht4, HI1.out.2.trans (turns_in ht4 (fun j hj => by rw [HFT.out]; exact foot_mem.2 (.inr (.inl (by simpa using hj)))))⟩
            case measure => omega
          · have h1 : ¬ (k : Int) < s.first.length := by omega
            obtain rfl : k = s.first.length := by omega
            have m4 := hi.nine.c4
            have m5 := hi.nine.c5
            have g4 := hi.unf 4
            have g5 := hi.unf 5
            have hbl9 := hi.lt
            try simp only at m4 m5
            rw [List.take_length] at hi
            have HI := Lib.hid (And.intro hi htn)
            clear hi htn hlt
            go_wp2
            go_ret
            have hI9 := HI.out.1.clear.set 5 (.int .i64 0) ⟨s.room, seenF s.lie s.first, s.seen, s.taken, [], 0, lf, s.keep, s.down⟩ rfl rfl rfl rfl
            have hT9 := (HI.out.2.setCell (p := ⟨b, 4, none⟩) (foot_mem.2 (.inl rfl)) (.slice none 0 0)).setCell (p := ⟨b, 5, none⟩) (foot_mem.2 (.inl rfl)) (.int .i64 0)
            refine ⟨congrArg (fun x : Raw × Int => Ending.returned (.int .i64 x.2)) E9.out.symm, foot b ml' ms' (.slice none 0 0), ?_, hT9.to (fun k hk => .inl (by rw [HFT.out]; rcases foot_mem.1 hk with rfl | rfl | rfl | hk; exact foot_mem.2 (.inl rfl); exact foot_mem.2 (.inr (.inl rfl)); exact foot_mem.2 (.inr (.inr (.inl rfl))); cases hk)), fun _ => rfl⟩
            rw [E9.out]
            unfold doneR
            rw [HLF.out, if_pos HQ.out]
            exact hI9.at
      · have hqd : (s.waiting == (s.first.length : Int)) = false := by simpa using hq
        have HQ := Lib.hid hq
        have HCL := Lib.hid (clone_any wd ms' s.seen HI6.out.1.2.2.1)
        clear hq
        go_wp2_with fail
        refine HCL.out.mono ?_
        rintro r w6 ⟨rfl, hm6, hm6', hb6⟩
        have hI6 := HI6.out.1.below hb6
        have hn6 : ∀ k, k ∈ foot b ml' ms' (.slice A' s.first.length c') → k ≠ wd.heap.size := fun k hk e => by have := HI6.out.1.lies k hk; omega
        have hT6 := HI6.out.2.trans (turns_in (F := foot b ml ms (.slice A s.first.length c)) (Turns.of_below hb6) (fun k hk => by cases hk))
        have hNw : w.heap.size ≤ wd.heap.size := HI6.out.2.size
        generalize wd.heap.size = N at *
        have i1 := hI6.nine.c1
        have i4 := hI6.nine.c4
        have i5 := hI6.nine.c5
        have g1 := hI6.unf 1
        have g4 := hI6.unf 4
        have g5 := hI6.unf 5
        have hb6l := hI6.lt
        try simp only at i1 i4 i5
        have hI9 := ((hI6.lieNew hm6 hn6).clear).set 5 (.int .i64 0) ⟨s.room, s.seen, s.seen, s.taken, [], 0, lf, s.keep, s.down⟩ rfl rfl rfl rfl
        have hT9 := ((hT6.setCell (p := ⟨b, 1, none⟩) (foot_mem.2 (.inl rfl)) (.map (some N))).setCell (p := ⟨b, 4, none⟩) (foot_mem.2 (.inl rfl)) (.slice none 0 0)).setCell (p := ⟨b, 5, none⟩) (foot_mem.2 (.inl rfl)) (.int .i64 0)
        have HI9 := Lib.hid (And.intro hI9 hT9)
        clear hI9 hT9 hI6 hT6 hm6 hm6' hb6 j1 j2 j4 j5 f1 f4 f5 HCL hn6
        go_wp2
        go_ret
        refine ⟨congrArg (fun x : Raw × Int => Ending.returned (.int .i64 x.2)) E9.out.symm, foot b N ms' (.slice none 0 0), ?_, HI9.out.2.to (fun k hk => by
          rcases foot_mem.1 hk with rfl | rfl | rfl | hk
          · exact .inl (foot_mem.2 (.inl rfl))
          · exact .inr hNw
          · exact .inl (by rw [HFT.out]; exact foot_mem.2 (.inr (.inr (.inl rfl))))
          · cases hk), fun _ => rfl⟩
        rw [E9.out]
        unfold doneR
        rw [HLF.out, if_neg HQ.out]
        exact HI9.out.1.at
  · rw [hd] at c8
    have e9 : syncR s = (s, 8) := by unfold syncR; simp [hd]
    have E9 := Lib.hid e9
    clear e9
    go_enter Try.func24, Try.ntmps24
    go_wp2
    go_ret
    exact ⟨congrArg (fun x : Raw × Int => Ending.returned (.int .i64 x.2)) E9.out.symm, _, by rw [E9.out]; exact HAT.out, Turns.refl _ _, fun h9 => by rw [E9.out] at h9; cases h9⟩
end Go.Proofs.Ytdgfbpkpfmdjjaa.Hk
