/-
  The program's disk: an effect waits (layer 7).
-/
import Derived.Test.YtdgfbpkpfmdjjaaKe
namespace Go.Proofs.Ytdgfbpkpfmdjjaa.Hk
open Go.RowKit Hr Hw Ht
set_option linter.unusedVariables false

theorem ge_elem : ∃ i, ElemOf 71 80 4 i (.agg #[.int .i64 0, .string ByteArray.empty, .string ByteArray.empty, .string ByteArray.empty]) 56 := mkElem Try.underlying71 (by kernel_rfl) rfl (by omega) (by omega)
/-- one more effect is held -/
theorem first_app {w : World} {b ml ms : Nat} {s : Raw} {A : Option Addr} {c : Nat} {e : Ef} {g : Nat} (h : RawIs w b s ml ms A c) (he : Recs 4 gcells w w.heap.size (some ⟨g, 0, none⟩) [e]) (hl : s.first.length ≤ 100000) (ty : TypeId) (n : Nat) (hn : n = (s.first ++ [e]).length) :
    ∃ A' c' w', (Builtin.append_ #[71, 71] ty #[.slice A s.first.length c, .slice (some ⟨g, 0, none⟩) 1 1]).run Try.prog w = .ok (.slice A' n c') w' ∧ w'.cell? ⟨b, 4, none⟩ = some (.slice A s.first.length c) ∧ w'.frozen? ⟨b, 4, none⟩ = false ∧ b < w'.heap.size ∧
      (∀ k, k < w.heap.size → k ∉ foot b ml ms (.slice A s.first.length c) → w'.heap[k]? = w.heap[k]?) ∧
      RawIs (w'.setCell ⟨b, 4, none⟩ (.slice A' n c')) b { s with first := s.first ++ [e] } ml ms A' c' ∧ Turns (foot b ml ms (.slice A s.first.length c)) (foot b ml ms (.slice A' (s.first ++ [e]).length c')) w (w'.setCell ⟨b, 4, none⟩ (.slice A' n c')) := by
  subst hn
  obtain ⟨i0, E⟩ := ge_elem
  have hlies := h.lies
  obtain ⟨hb, h1, h2, h3, e1, e2, e3, e4⟩ := h
  obtain ⟨v', w', hrun, hown, hgr, hat⟩ := app_recs E gcells_len gcells_one w 0 (.slice A s.first.length c) s.first [e] (some ⟨g, 0, none⟩) 1 _ ty h3 he hl (by simp) (Nat.zero_le _)
  obtain ⟨A', c', rfl, _, _⟩ := recs_own gcells_len (by omega) hown
  have hblt : b < w.heap.size := hlies b (foot_mem.2 (.inl rfl))
  have nb : ∀ k, k ∈ [b, ml, ms] → some k ≠ (Value.slice A s.first.length c).ownBlock := fun k hk e => by
    have := e4 k e.symm
    simp only [List.mem_cons, List.not_mem_nil, or_false] at hk
    rcases hk with rfl | rfl | rfl
    · exact this.1 rfl
    · exact this.2.1 rfl
    · exact this.2.2 rfl
  have hb' : w'.heap[b]? = some (.cells (rcells s ml ms A c) 73 (0, 0)) := (hgr.block b hblt (nb b (by simp))).trans hb
  have hg' : ∀ k, (Value.slice A' (s.first ++ [e]).length c').ownBlock = some k → k ≠ b ∧ k ≠ ml ∧ k ≠ ms := fun k hk => by
    rcases hat with h9 | h9
    · exact e4 k (h9.symm.trans hk)
    · have h8 : w.heap.size = k := by rw [h9] at hk; injection hk
      have := h1.lt
      have := h2.lt
      refine ⟨?_, ?_, ?_⟩ <;> omega
  have hs : ∀ k, k ≠ b → (w'.setCell ⟨b, 4, none⟩ (.slice A' (s.first ++ [e]).length c')).heap[k]? = w'.heap[k]? := fun k hk => Below.heap_setCell _ _ _ _ hk
  refine ⟨A', c', w', hrun, by rw [cell_of_cells hb']; rfl, unfrozen_of_cells hb' 4, Nat.lt_of_lt_of_le hblt hgr.size, fun k hk hn => hgr.block k hk (fun e => hn (foot_mem.2 (.inr (.inr (.inr e.symm))))), ⟨?_, ?_, ?_, ?_, e1, e2, e3, hg'⟩, ?_⟩
  · rw [heap_setCell_cells hb']; rfl
  · exact h1.same ((hs ml (Ne.symm e1)).trans (hgr.block ml h1.lt (nb ml (by simp))))
  · exact h2.same ((hs ms (Ne.symm e2)).trans (hgr.block ms h2.lt (nb ms (by simp))))
  · exact ownsRow_same hown (fun k hk => hs k (hg' k hk).1)
  · refine (((Turns.refl (foot b ml ms (.slice A s.first.length c)) w).grown hgr (fun k hk => foot_mem.2 (.inr (.inr (.inr hk))))).setCell (p := ⟨b, 4, none⟩) (foot_mem.2 (.inl rfl)) _).to (fun k hk => ?_)
    rcases foot_mem.1 hk with rfl | rfl | rfl | hk
    · exact .inl (foot_mem.2 (.inl rfl))
    · exact .inl (foot_mem.2 (.inr (.inl rfl)))
    · exact .inl (foot_mem.2 (.inr (.inr (.inl rfl))))
    · rcases hat with h9 | h9
      · exact .inl (foot_mem.2 (.inr (.inr (.inr (h9.symm.trans hk)))))
      · exact .inr (by rw [h9] at hk; injection hk with hk; omega)
theorem one_ge (w : World) (e : Ef) : Recs 4 gcells (w.alloc (.cells #[.int .i64 (kd e), .string e.2.1, .string (toS e), .string (teS e)] 80)) (w.alloc (.cells #[.int .i64 (kd e), .string e.2.1, .string (toS e), .string (teS e)] 80)).heap.size (some ⟨w.heap.size, 0, none⟩) [e] := fun i hi => by
  obtain rfl : i = 0 := by simpa using hi
  refine ⟨_, rfl, by simp, fun j hj => ?_⟩
  have hh := heap_alloc_new w (.cells #[.int .i64 (kd e), .string e.2.1, .string (toS e), .string (teS e)] 80)
  rw [add_add, Addr.add_lit]
  simp only [World.cell?, hh]
  have h2 : j = 0 ∨ j = 1 ∨ j = 2 ∨ j = 3 := by omega
  rcases h2 with rfl | rfl | rfl | rfl <;> rfl

/-- what becomes of the disk, ahead of the cut -/
def waitS (s : Raw) (e : Ef) (taken : Int) : Raw := { s with seen := doneF s.seen e, taken := taken, first := if s.first.length < 64 then s.first ++ [e] else s.first, waiting := s.waiting + 1 }
def cutR (s : Raw) : Raw × Int := if s.left = 1 then (failR { s with left := 0 }, 8) else ({ s with left := if s.left = 0 then 0 else s.left - 1 }, 0)
structure FitR (s : Raw) : Prop where
  len : s.lie.length + s.first.length ≤ 2900
  few : s.first.length ≤ 64
  k0 : 0 ≤ s.keep
  k1 : s.keep < 18446744073709551616
  l0 : 0 ≤ s.left
  l1 : s.left ≤ 9223372036854775807
  tak : takenF (keepF s.lie s.first s.keep s.first.length) ≤ 1000000000
  eok : ∀ e ∈ s.first, EfOk e

set_option maxHeartbeats 2000000 in
set_option maxRecDepth 100000 in
/-- the end of each call that counts -/
theorem cut_any (w : World) (b : Nat) (s : Raw) (F : List Nat) (h : RawAt w b s F) (hf : FitR s) :
    Calls Try.prog 36 #[.pointer (some ⟨b, 0, none⟩)] w fun r w' => r = .returned (.bool (decide (s.left = 1))) ∧ RawAt w' b { s with left := if s.left = 0 then 0 else s.left - 1 } F ∧ Turns F F w w' :=
  cutComes_any w b s F h hf.l0 hf.l1

set_option maxHeartbeats 4000000 in
set_option maxRecDepth 100000 in
theorem wait_any (w : World) (b : Nat) (s : Raw) (F : List Nat) (h : RawAt w b s F) (e : Ef) (tk : Int) (he : EfOk e) (hsl : s.seen.length < 100000) (hwt : 0 ≤ s.waiting ∧ s.waiting ≤ 1000000000) (hfn : s.first.length ≤ 64) (hf : FitR (waitS s e tk)) :
    Calls Try.prog 45 #[.pointer (some ⟨b, 0, none⟩), efV e, .int .i64 tk] w fun r w' => r = .returned (.int .i64 (cutR (waitS s e tk)).2) ∧ ∃ F', RawAt w' b (cutR (waitS s e tk)).1 F' ∧ Turns F F' w w' := by
  obtain ⟨ml, ms, A, c, hi, rfl⟩ := h.is
  clear h
  have hw5 : IntKind.i64.wrap (s.waiting + 1) = s.waiting + 1 := by rw [IntKind.wrap_i64]; omega
  have hE := heap_alloc_new w (.cells #[.int .i64 (kd e), .string e.2.1, .string (toS e), .string (teS e)] 80)
  have hb0 : Below w.heap.size w (w.alloc (.cells #[.int .i64 (kd e), .string e.2.1, .string (toS e), .string (teS e)] 80)) := (Below.refl _ w).alloc (Nat.le_refl _) _
  have hEl : ∀ k, k ∈ foot b ml ms (.slice A s.first.length c) → k < w.heap.size := hi.lies
  have hi0 := hi.below hb0
  have hd0 : Below (w.alloc (.cells #[.int .i64 (kd e), .string e.2.1, .string (toS e), .string (teS e)] 80)).heap.size (w.alloc (.cells #[.int .i64 (kd e), .string e.2.1, .string (toS e), .string (teS e)] 80)) (w.alloc (.cells #[.int .i64 (kd e), .string e.2.1, .string (toS e), .string (teS e)] 80)).drew := (Below.refl _ _).drew
  have hiD := hi0.below hd0
  have HD := Lib.hid (edo_any _ ms s.seen e hiD.2.2.1 (by omega) he)
  have k2 := hi0.nine.c2
  have hT0 : Turns (foot b ml ms (.slice A s.first.length c)) (foot b ml ms (.slice A s.first.length c)) w (w.alloc (.cells #[.int .i64 (kd e), .string e.2.1, .string (toS e), .string (teS e)] 80)).drew := (turns_in (Turns.of_below hb0) (fun k hk => by cases hk)).drew
  have hED : (w.alloc (.cells #[.int .i64 (kd e), .string e.2.1, .string (toS e), .string (teS e)] 80)).drew.heap[w.heap.size]? = some (.cells #[.int .i64 (kd e), .string e.2.1, .string (toS e), .string (teS e)] 80) := hE
  have hzD : (w.alloc (.cells #[.int .i64 (kd e), .string e.2.1, .string (toS e), .string (teS e)] 80)).drew.heap.size = w.heap.size + 1 := by simp
  have HI := Lib.hid (And.intro hiD (And.intro hT0 (And.intro hED hzD)))
  have HEL := Lib.hid hEl
  have hbl := hi.lt
  clear hi hi0 hiD hd0 hb0 hE hT0 hED hzD hEl
  unfold efV
  obtain ⟨fl, hfl⟩ : ∃ fl, fl = (if s.first.length < 64 then s.first ++ [e] else s.first) := ⟨_, rfl⟩
  have hws : waitS s e tk = ⟨s.room, s.lie, doneF s.seen e, tk, fl, s.waiting + 1, s.left, s.keep, s.down⟩ := by rw [hfl]; rfl
  rw [hws] at hf ⊢
  have HF := Lib.hid hf
  have HFL := Lib.hid hfl
  clear hf hws hfl
  go_enter Try.func45, Try.ntmps45
  go_wp2_with fail
  refine wp_region_still_tail 5 (by kernel_rfl) (by kernel_rfl) ?_
  simp only [List.take_succ_cons, List.take_zero, List.drop_succ_cons, List.drop_zero]
  change wpStill _ _ (World.drew _) (fun a' => wpList _ _ _ _ a' (World.drew _)) _ _
  iterate 5 still_step
  refine wpStill_nil ?_
  generalize (w.alloc (.cells #[.int .i64 (kd e), .string e.2.1, .string (toS e), .string (teS e)] 80)).drew = W0 at *
  go_wp2_with fail
  refine HD.out.mono ?_
  rintro r w2 ⟨rfl, hm2, ht2⟩
  have hi2 := HI.out.1.seenTo hm2 ht2
  have c3 := hi2.nine.c3
  have f3 := hi2.unf 3
  have c4 := hi2.nine.c4
  have c5w := hi2.nine.c5
  have f5w := hi2.unf 5
  simp only at c3 c4 c5w
  have hi3 := hi2.set 3 (.int .i64 tk) ⟨s.room, s.lie, doneF s.seen e, tk, s.first, s.waiting, s.left, s.keep, s.down⟩ rfl rfl rfl rfl
  have hb2l : b < w2.heap.size := hi2.lt
  have hT3 := (HI.out.2.1.trans (turns_in (F := (foot b ml ms (.slice A s.first.length c))) ht2 (fun j hj => foot_mem.2 (.inr (.inr (.inl (by simpa using hj))))))).setCell (p := ⟨b, 3, none⟩) (foot_mem.2 (.inl rfl)) (.int .i64 tk)
  have hE3 : (w2.setCell ⟨b, 3, none⟩ (.int .i64 tk)).heap[w.heap.size]? = some (.cells #[.int .i64 (kd e), .string e.2.1, .string (toS e), .string (teS e)] 80) := (Below.heap_setCell _ _ _ _ (fun h9 => by have h8 : w.heap.size = b := h9; omega)).trans ((ht2.block _ (by rw [HI.out.2.2.2]; omega) (fun h9 => by have := HEL.out ms (foot_mem.2 (.inr (.inr (.inl rfl)))); simp at h9; omega)).trans HI.out.2.2.1)
  have hz3 : w.heap.size < (w2.setCell ⟨b, 3, none⟩ (.int .i64 tk)).heap.size := (Array.getElem?_eq_some_iff.1 hE3).1
  have HM2 := Lib.hid (And.intro hi3 (And.intro hT3 (And.intro hE3 hz3)))
  clear hi2 hm2 ht2 hi3 hT3 hE3 hz3 HD HI
  by_cases h64 : s.first.length < 64
  · have h64' : (s.first.length : Int) < 64 := by omega
    obtain rfl : fl = s.first ++ [e] := by rw [HFL.out, if_pos h64]
    clear HFL
    go_wp2_with fail
    have hdr : Below (w2.setCell ⟨b, 3, none⟩ (.int .i64 tk)).heap.size (w2.setCell ⟨b, 3, none⟩ (.int .i64 tk)) (w2.setCell ⟨b, 3, none⟩ (.int .i64 tk)).drew := (Below.refl _ _).drew
    refine wp_region_tree (fun W => W.heap[w.heap.size]? = some (.cells #[.int .i64 (kd e), .string e.2.1, .string (toS e), .string (teS e)] 80)) (.take 0 0 (.take 1 1 (.take 2 3 (.take 3 7 (.take 5 15 (.fork 4 6 47 (.call 6 63 (.call 7 127 (.take 8 255 (.take 9 511 (.call 10 1023 .done))))) (.call 4 111 (.call 7 127 (.take 8 255 (.take 9 511 (.call 10 1023 .done)))))))))))
      11 (by kernel_rfl) (by kernel_rfl) (by kernel_rfl) (fun d _ _ _ _ h => by cases d <;> exact h) (by kernel_rfl) HM2.out.2.2.1 ?_
    have HM3 := Lib.hid (And.intro (HM2.out.1.below hdr) (And.intro HM2.out.2.1.drew (And.intro (show (w2.setCell ⟨b, 3, none⟩ (.int .i64 tk)).drew.heap[w.heap.size]? = _ from HM2.out.2.2.1) (show w.heap.size < (w2.setCell ⟨b, 3, none⟩ (.int .i64 tk)).drew.heap.size from HM2.out.2.2.2))))
    have c4d := HM3.out.1.nine.c4
    simp only at c4d
    have hbwd := HM3.out.1.lt
    clear hdr
    generalize (w2.setCell ⟨b, 3, none⟩ (.int .i64 tk)).drew = wd at *
    clear c3 f3 c4 c5w f5w
    have HSa := Lib.hid (show (wd.alloc (.cells #[.int .i64 (kd e), .string e.2.1, .string (toS e), .string (teS e)] 80)).heap[w.heap.size]? = some (.cells #[.int .i64 (kd e), .string e.2.1, .string (toS e), .string (teS e)] 80) from (Below.heap_alloc _ _ _ HM3.out.2.2.2).trans HM3.out.2.2.1)
    have hba : Below wd.heap.size wd (wd.alloc (.cells #[.int .i64 (kd e), .string e.2.1, .string (toS e), .string (teS e)] 80)) := (Below.refl _ wd).alloc (Nat.le_refl _) _
    refine trH_take (.pointer (some ⟨b, 0, none⟩)) rfl (Or.inl ⟨by rfl, fun W _ => by go_simp⟩) ?_
    go_simp
    refine trH_take (.pointer (some ⟨b, 0, none⟩)) rfl (Or.inl ⟨by rfl, fun W _ => by go_simp⟩) ?_
    go_simp
    refine trH_take (.pointer (some ⟨b, 0, none⟩)) rfl (Or.inl ⟨by rfl, fun W _ => by go_simp⟩) ?_
    go_simp
    refine trH_take (.pointer (some ⟨b, 4, none⟩)) rfl (Or.inl ⟨by rfl, fun W _ => by go_simp⟩) ?_
    go_simp
    refine trH_take (.agg #[.int .i64 (kd e), .string e.2.1, .string (toS e), .string (teS e)]) rfl (Or.inl ⟨by rfl, fun W hW => by have q0 : W.cell? ⟨w.heap.size, 0, none⟩ = some (.int .i64 (kd e)) := (by rw [cell_of_cells hW]; rfl); have q1 : W.cell? ⟨w.heap.size, 1, none⟩ = some (.string e.2.1) := (by rw [cell_of_cells hW]; rfl); have q2 : W.cell? ⟨w.heap.size, 2, none⟩ = some (.string (toS e)) := (by rw [cell_of_cells hW]; rfl); have q3 : W.cell? ⟨w.heap.size, 3, none⟩ = some (.string (teS e)) := (by rw [cell_of_cells hW]; rfl); clear hW; go_simp⟩) ?_
    go_simp
    refine trH_fork rfl (by rfl) rfl (by rfl) (fun K hK => ?_) (fun K hK => ?_)
    · have HK := Lib.hid hK
      clear hK
      go_simp
      refine HK.out _ _ HM3.out.2.2.1 ?_
      clear HK K
      go_simp
      refine trH_call rfl (by rfl) (fun K hK => ?_)
      have HK := Lib.hid hK
      clear hK
      go_simp
      refine HK.out _ _ HSa.out ?_
      clear HK K
      go_simp
      have hi3 := HM3.out.1.below hba
      obtain ⟨n1, hn1⟩ : ∃ n, n = (s.first ++ [e]).length := ⟨_, rfl⟩
      obtain ⟨A1, c1, w3, hrun, k4, f4, hb3, hk3, hi4, ht4⟩ := first_app (e := e) hi3 (one_ge wd e) (by simp only; omega) 71 n1 hn1
      clear hn1
      have HR := Lib.hid (And.intro hi4 ((HM3.out.2.1.trans (turns_in (Turns.of_below hba) (fun k hk => by cases hk))).trans ht4))
      have HE3 := Lib.hid (show w3.heap[w.heap.size]? = some (.cells #[.int .i64 (kd e), .string e.2.1, .string (toS e), .string (teS e)] 80) from (hk3 _ (by have := hba.size; have := HM3.out.2.2.2; omega) (fun hk => by have := HEL.out _ hk; omega)).trans ((hba.block _ HM3.out.2.2.2).trans HM3.out.2.2.1))
      have HE4 := Lib.hid (show (w3.setCell ⟨b, 4, none⟩ (.slice A1 n1 c1)).heap[w.heap.size]? = some (.cells #[.int .i64 (kd e), .string e.2.1, .string (toS e), .string (teS e)] 80) from (Below.heap_setCell _ _ _ _ (fun h9 => by have h8 : w.heap.size = b := h9; omega)).trans HE3.out)
      clear hi3 hi4 ht4 hk3 hba
      simp only at hrun k4
      have HHR := Lib.hid hrun
      clear hrun
      refine trH_call rfl (by rfl) (fun K hK => ?_)
      have HK := Lib.hid hK
      clear hK
      unfold Oper.wp
      simp [execOp, resolve, invoke, builtin, Act.eval, HHR.out, Result.andThen, Oper.upon]
      refine HK.out _ _ HE3.out ?_
      clear HK K
      go_simp
      refine trH_take (.pointer (some ⟨b, 0, none⟩)) rfl (Or.inl ⟨by rfl, fun W _ => by go_simp⟩) ?_
      go_simp
      refine trH_take (.pointer (some ⟨b, 4, none⟩)) rfl (Or.inl ⟨by rfl, fun W _ => by go_simp⟩) ?_
      go_simp
      refine trH_call rfl (by rfl) (fun K hK => ?_)
      have HK := Lib.hid hK
      clear hK
      go_simp
      refine HK.out _ _ HE4.out ?_
      clear HK K
      go_simp
      refine trH_done ?_
      generalize (w3.setCell ⟨b, 4, none⟩ (.slice A1 n1 c1)) = w4 at *
      clear HHR k4 f4 hb3 HE3 HE4 HM3 HM2
      have c5 := HR.out.1.nine.c5
      have f5 := HR.out.1.unf 5
      have hbl4 := HR.out.1.lt
      have hi5 := HR.out.1.set 5 (.int .i64 (s.waiting + 1)) ⟨s.room, s.lie, doneF s.seen e, tk, (s.first ++ [e]), s.waiting + 1, s.left, s.keep, s.down⟩ rfl rfl rfl rfl
      have hT5 := HR.out.2.setCell (p := ⟨b, 5, none⟩) (foot_mem.2 (.inl rfl)) (.int .i64 (s.waiting + 1))
      have HC5 := Lib.hid (cut_any _ b _ _ hi5.at HF.out)
      have HR5 := Lib.hid (And.intro hi5 hT5)
      clear hi5 hT5
      go_wp2_with fail
      refine HC5.out.mono ?_
      rintro r w5 ⟨rfl, hr5, ht5⟩
      have HT6 := Lib.hid (HR5.out.2.trans ht5)
      clear ht5 HC5 HR5 HR c5 f5
      by_cases hl1 : s.left = 1
      · have hd1 : decide (s.left = 1) = true := decide_eq_true hl1
        have hr6 : RawAt w5 b { (⟨s.room, s.lie, doneF s.seen e, tk, (s.first ++ [e]), s.waiting + 1, s.left, s.keep, s.down⟩ : Raw) with left := 0 } (foot b ml ms (.slice A1 ((s.first ++ [e])).length c1)) := by have h9 := hr5; simp only [hl1] at h9; exact h9
        have HX := Lib.hid (fail_any w5 b _ _ hr6 (Nat.le_trans HF.out.len (by omega)) HF.out.few HF.out.k0 HF.out.k1 HF.out.tak HF.out.eok)
        have ecr : cutR ⟨s.room, s.lie, doneF s.seen e, tk, (s.first ++ [e]), s.waiting + 1, s.left, s.keep, s.down⟩ = (failR { (⟨s.room, s.lie, doneF s.seen e, tk, (s.first ++ [e]), s.waiting + 1, s.left, s.keep, s.down⟩ : Raw) with left := 0 }, 8) := by unfold cutR; rw [if_pos hl1]
        have ECR := Lib.hid ecr
        clear ecr
        clear hr5 hr6
        simp only [hd1]
        go_wp2_with fail
        refine HX.out.mono ?_
        rintro r w7 ⟨rfl, F7, hr7, ht7⟩
        go_wp2
        go_ret
        exact ⟨congrArg (fun x : Raw × Int => Ending.returned (.int .i64 x.2)) ECR.out.symm, F7, by rw [ECR.out]; exact hr7, HT6.out.trans ht7⟩
      · have hd1 : decide (s.left = 1) = false := decide_eq_false hl1
        have ecr : cutR ⟨s.room, s.lie, doneF s.seen e, tk, (s.first ++ [e]), s.waiting + 1, s.left, s.keep, s.down⟩ = ({ (⟨s.room, s.lie, doneF s.seen e, tk, (s.first ++ [e]), s.waiting + 1, s.left, s.keep, s.down⟩ : Raw) with left := if s.left = 0 then 0 else s.left - 1 }, 0) := by unfold cutR; rw [if_neg hl1]
        have ECR := Lib.hid ecr
        clear ecr
        have HR6 := Lib.hid hr5
        clear hr5
        simp only [hd1]
        go_wp2
        go_ret
        exact ⟨congrArg (fun x : Raw × Int => Ending.returned (.int .i64 x.2)) ECR.out.symm, _, by rw [ECR.out]; exact HR6.out, HT6.out⟩
    · have HK := Lib.hid hK
      clear hK
      go_simp
      refine HK.out _ _ HSa.out ?_
      clear HK K
      go_simp
      refine trH_call rfl (by rfl) (fun K hK => ?_)
      have HK := Lib.hid hK
      clear hK
      go_simp
      refine HK.out _ _ HSa.out ?_
      clear HK K
      go_simp
      have hi3 := HM3.out.1.below hba
      obtain ⟨n1, hn1⟩ : ∃ n, n = (s.first ++ [e]).length := ⟨_, rfl⟩
      obtain ⟨A1, c1, w3, hrun, k4, f4, hb3, hk3, hi4, ht4⟩ := first_app (e := e) hi3 (one_ge wd e) (by simp only; omega) 71 n1 hn1
      clear hn1
      have HR := Lib.hid (And.intro hi4 ((HM3.out.2.1.trans (turns_in (Turns.of_below hba) (fun k hk => by cases hk))).trans ht4))
      have HE3 := Lib.hid (show w3.heap[w.heap.size]? = some (.cells #[.int .i64 (kd e), .string e.2.1, .string (toS e), .string (teS e)] 80) from (hk3 _ (by have := hba.size; have := HM3.out.2.2.2; omega) (fun hk => by have := HEL.out _ hk; omega)).trans ((hba.block _ HM3.out.2.2.2).trans HM3.out.2.2.1))
      have HE4 := Lib.hid (show (w3.setCell ⟨b, 4, none⟩ (.slice A1 n1 c1)).heap[w.heap.size]? = some (.cells #[.int .i64 (kd e), .string e.2.1, .string (toS e), .string (teS e)] 80) from (Below.heap_setCell _ _ _ _ (fun h9 => by have h8 : w.heap.size = b := h9; omega)).trans HE3.out)
      clear hi3 hi4 ht4 hk3 hba
      simp only at hrun k4
      have HHR := Lib.hid hrun
      clear hrun
      refine trH_call rfl (by rfl) (fun K hK => ?_)
      have HK := Lib.hid hK
      clear hK
      unfold Oper.wp
      simp [execOp, resolve, invoke, builtin, Act.eval, HHR.out, Result.andThen, Oper.upon]
      refine HK.out _ _ HE3.out ?_
      clear HK K
      go_simp
      refine trH_take (.pointer (some ⟨b, 0, none⟩)) rfl (Or.inl ⟨by rfl, fun W _ => by go_simp⟩) ?_
      go_simp
      refine trH_take (.pointer (some ⟨b, 4, none⟩)) rfl (Or.inl ⟨by rfl, fun W _ => by go_simp⟩) ?_
      go_simp
      refine trH_call rfl (by rfl) (fun K hK => ?_)
      have HK := Lib.hid hK
      clear hK
      go_simp
      refine HK.out _ _ HE4.out ?_
      clear HK K
      go_simp
      refine trH_done ?_
      generalize (w3.setCell ⟨b, 4, none⟩ (.slice A1 n1 c1)) = w4 at *
      clear HHR k4 f4 hb3 HE3 HE4 HM3 HM2
      have c5 := HR.out.1.nine.c5
      have f5 := HR.out.1.unf 5
      have hbl4 := HR.out.1.lt
      have hi5 := HR.out.1.set 5 (.int .i64 (s.waiting + 1)) ⟨s.room, s.lie, doneF s.seen e, tk, (s.first ++ [e]), s.waiting + 1, s.left, s.keep, s.down⟩ rfl rfl rfl rfl
      have hT5 := HR.out.2.setCell (p := ⟨b, 5, none⟩) (foot_mem.2 (.inl rfl)) (.int .i64 (s.waiting + 1))
      have HC5 := Lib.hid (cut_any _ b _ _ hi5.at HF.out)
      have HR5 := Lib.hid (And.intro hi5 hT5)
      clear hi5 hT5
      go_wp2_with fail
      refine HC5.out.mono ?_
      rintro r w5 ⟨rfl, hr5, ht5⟩
      have HT6 := Lib.hid (HR5.out.2.trans ht5)
      clear ht5 HC5 HR5 HR c5 f5
      by_cases hl1 : s.left = 1
      · have hd1 : decide (s.left = 1) = true := decide_eq_true hl1
        have hr6 : RawAt w5 b { (⟨s.room, s.lie, doneF s.seen e, tk, (s.first ++ [e]), s.waiting + 1, s.left, s.keep, s.down⟩ : Raw) with left := 0 } (foot b ml ms (.slice A1 ((s.first ++ [e])).length c1)) := by have h9 := hr5; simp only [hl1] at h9; exact h9
        have HX := Lib.hid (fail_any w5 b _ _ hr6 (Nat.le_trans HF.out.len (by omega)) HF.out.few HF.out.k0 HF.out.k1 HF.out.tak HF.out.eok)
        have ecr : cutR ⟨s.room, s.lie, doneF s.seen e, tk, (s.first ++ [e]), s.waiting + 1, s.left, s.keep, s.down⟩ = (failR { (⟨s.room, s.lie, doneF s.seen e, tk, (s.first ++ [e]), s.waiting + 1, s.left, s.keep, s.down⟩ : Raw) with left := 0 }, 8) := by unfold cutR; rw [if_pos hl1]
        have ECR := Lib.hid ecr
        clear ecr
        clear hr5 hr6
        simp only [hd1]
        go_wp2_with fail
        refine HX.out.mono ?_
        rintro r w7 ⟨rfl, F7, hr7, ht7⟩
        go_wp2
        go_ret
        exact ⟨congrArg (fun x : Raw × Int => Ending.returned (.int .i64 x.2)) ECR.out.symm, F7, by rw [ECR.out]; exact hr7, HT6.out.trans ht7⟩
      · have hd1 : decide (s.left = 1) = false := decide_eq_false hl1
        have ecr : cutR ⟨s.room, s.lie, doneF s.seen e, tk, (s.first ++ [e]), s.waiting + 1, s.left, s.keep, s.down⟩ = ({ (⟨s.room, s.lie, doneF s.seen e, tk, (s.first ++ [e]), s.waiting + 1, s.left, s.keep, s.down⟩ : Raw) with left := if s.left = 0 then 0 else s.left - 1 }, 0) := by unfold cutR; rw [if_neg hl1]
        have ECR := Lib.hid ecr
        clear ecr
        have HR6 := Lib.hid hr5
        clear hr5
        simp only [hd1]
        go_wp2
        go_ret
        exact ⟨congrArg (fun x : Raw × Int => Ending.returned (.int .i64 x.2)) ECR.out.symm, _, by rw [ECR.out]; exact HR6.out, HT6.out⟩
  · have h64' : ¬ (s.first.length : Int) < 64 := by omega
    obtain rfl : fl = s.first := by rw [HFL.out, if_neg h64]
    have HR := Lib.hid (And.intro HM2.out.1 HM2.out.2.1)
    clear HFL HM2
    have c5 := HR.out.1.nine.c5
    have f5 := HR.out.1.unf 5
    have hbl4 := HR.out.1.lt
    have hi5 := HR.out.1.set 5 (.int .i64 (s.waiting + 1)) ⟨s.room, s.lie, doneF s.seen e, tk, s.first, s.waiting + 1, s.left, s.keep, s.down⟩ rfl rfl rfl rfl
    have hT5 := HR.out.2.setCell (p := ⟨b, 5, none⟩) (foot_mem.2 (.inl rfl)) (.int .i64 (s.waiting + 1))
    have HC5 := Lib.hid (cut_any _ b _ _ hi5.at HF.out)
    have HR5 := Lib.hid (And.intro hi5 hT5)
    clear hi5 hT5
    go_wp2_with fail
    refine HC5.out.mono ?_
    rintro r w5 ⟨rfl, hr5, ht5⟩
    have HT6 := Lib.hid (HR5.out.2.trans ht5)
    clear ht5 HC5 HR5 HR c5 f5
    by_cases hl1 : s.left = 1
    · have hd1 : decide (s.left = 1) = true := decide_eq_true hl1
      have hr6 : RawAt w5 b { (⟨s.room, s.lie, doneF s.seen e, tk, s.first, s.waiting + 1, s.left, s.keep, s.down⟩ : Raw) with left := 0 } (foot b ml ms (.slice A (s.first).length c)) := by have h9 := hr5; simp only [hl1] at h9; exact h9
      have HX := Lib.hid (fail_any w5 b _ _ hr6 (Nat.le_trans HF.out.len (by omega)) HF.out.few HF.out.k0 HF.out.k1 HF.out.tak HF.out.eok)
      have ecr : cutR ⟨s.room, s.lie, doneF s.seen e, tk, s.first, s.waiting + 1, s.left, s.keep, s.down⟩ = (failR { (⟨s.room, s.lie, doneF s.seen e, tk, s.first, s.waiting + 1, s.left, s.keep, s.down⟩ : Raw) with left := 0 }, 8) := by unfold cutR; rw [if_pos hl1]
      have ECR := Lib.hid ecr
      clear ecr
      clear hr5 hr6
      simp only [hd1]
      go_wp2_with fail
      refine HX.out.mono ?_
      rintro r w7 ⟨rfl, F7, hr7, ht7⟩
      go_wp2
      go_ret
      exact ⟨congrArg (fun x : Raw × Int => Ending.returned (.int .i64 x.2)) ECR.out.symm, F7, by rw [ECR.out]; exact hr7, HT6.out.trans ht7⟩
    · have hd1 : decide (s.left = 1) = false := decide_eq_false hl1
      have ecr : cutR ⟨s.room, s.lie, doneF s.seen e, tk, s.first, s.waiting + 1, s.left, s.keep, s.down⟩ = ({ (⟨s.room, s.lie, doneF s.seen e, tk, s.first, s.waiting + 1, s.left, s.keep, s.down⟩ : Raw) with left := if s.left = 0 then 0 else s.left - 1 }, 0) := by unfold cutR; rw [if_neg hl1]
      have ECR := Lib.hid ecr
      clear ecr
      have HR6 := Lib.hid hr5
      clear hr5
      simp only [hd1]
      go_wp2
      go_ret
      exact ⟨congrArg (fun x : Raw × Int => Ending.returned (.int .i64 x.2)) ECR.out.symm, _, by rw [ECR.out]; exact HR6.out, HT6.out⟩
end Go.Proofs.Ytdgfbpkpfmdjjaa.Hk
