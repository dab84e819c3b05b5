/-
  The program's disk: List, New (layer 7).
-/
import Derived.Test.YtdgfbpkpfmdjjaaKj
namespace Go.Proofs.Ytdgfbpkpfmdjjaa.Hk
open Go.RowKit Hr Hw Ht
set_option linter.unusedVariables false

theorem listF_cons (q : Fl) (l : List Fl) (pre : ByteArray) : listF (q :: l) pre = (if beginsB q.1 pre = true then [q.1] else []) ++ listF l pre := by
  unfold listF
  rw [List.filter_cons]
  split <;> simp [*]
theorem come_list {L : List Fl} (hr : Rise L) {left : Lit → Bool} {p t : ByteArray} (hl : left (pk p) = true) (hf : findF L p = some t) (pre : ByteArray) :
    ((if beginsB p pre = true then [p] else []) ++ listF (come L left) pre).Perm (listF (come L (fun z => left z && !z.sameKey (pk p))) pre) := by
  induction L with
  | nil => cases hf
  | cons q L ih =>
    obtain ⟨h1, h2⟩ := rise_tail hr
    by_cases e : q.1 = p
    · have h3 : come (q :: L) left = come L left := by
        unfold come
        rw [List.filter_cons, e, hl]
        simp
      have h4 : come (q :: L) (fun z => left z && !z.sameKey (pk p)) = q :: come L (fun z => left z && !z.sameKey (pk p)) := by
        unfold come
        rw [List.filter_cons, e]
        simp [WideAt.sameKey_self (pk_lit p)]
      have h5 : come L (fun z => left z && !z.sameKey (pk p)) = come L left := by
        unfold come
        refine List.filter_congr fun x hx => ?_
        have h6 : (pk x.1).sameKey (pk p) = false := Maps.sameKey_ne (pk_ne (by rw [← e]; exact h2 x hx))
        simp [h6]
      rw [h3, h4, h5, listF_cons, e]
    · have hf' : findF L p = some t := by
        have : findF (q :: L) p = findF L p := by simp [findF, e]
        rw [← this]; exact hf
      have ih := ih h1 hf'
      have h8 : (pk q.1).sameKey (pk p) = false := Maps.sameKey_ne (pk_ne e)
      cases hq : left (pk q.1)
      · have h3 : come (q :: L) left = q :: come L left := by
          unfold come
          rw [List.filter_cons, hq]
          simp
        have h4 : come (q :: L) (fun z => left z && !z.sameKey (pk p)) = q :: come L (fun z => left z && !z.sameKey (pk p)) := by
          unfold come
          rw [List.filter_cons]
          simp [hq]
        rw [h3, h4, listF_cons, listF_cons]
        have h9 : ∀ a b c : List ByteArray, (a ++ (b ++ c)).Perm (b ++ (a ++ c)) := fun a b c => by
          rw [← List.append_assoc, ← List.append_assoc]
          exact List.perm_append_comm.append_right c
        exact (h9 _ _ _).trans (ih.append_left _)
      · have h3 : come (q :: L) left = come L left := by
          unfold come
          rw [List.filter_cons, hq]
          simp
        have h4 : come (q :: L) (fun z => left z && !z.sameKey (pk p)) = come L (fun z => left z && !z.sameKey (pk p)) := by
          unfold come
          rw [List.filter_cons]
          simp [hq, h8]
        rw [h3, h4]
        exact ih
theorem listF_rise {L : List Fl} (h : Rise L) (pre : ByteArray) : (listF L pre).Pairwise fun a b => lessS a b = true := by
  unfold listF
  rw [List.pairwise_map]
  exact List.Pairwise.filter _ h

set_option maxHeartbeats 2000000 in
set_option maxRecDepth 100000 in
theorem list_up (w : World) (b : Nat) (s : Raw) (F : List Nat) (h : RawAt w b s F) (hd : s.down = false) (pre : ByteArray) (hq : pre.size ≤ maxLen) (hl : s.seen.length ≤ 10000) :
    Calls Try.prog 25 #[.pointer (some ⟨b, 0, none⟩), .string pre] w fun r w' => (∃ A c, r = .returned (.slice A (listF s.seen pre).length c) ∧ w'.ownsRow w.heap.size 9 1 (.slice A (listF s.seen pre).length c) (listF s.seen pre).length ((listF s.seen pre).flatMap scells)) ∧ Below w.heap.size w w' := by
  obtain ⟨ml, ms, A, c, hi, rfl⟩ := h.is
  have hbl := hi.lt
  have c8 := hi.nine.c8
  rw [hd] at c8
  have c2 := hi.nine.c2
  have hm := hi.2.2.1
  have hR := hm.rise
  have hml := hm.lt
  have HM := Lib.hid hm
  have HR := Lib.hid hR
  clear hi h hm hR
  generalize s.seen = L at *
  obtain ⟨i0, E⟩ := st_elem
  have HE := Lib.hid E
  clear E
  go_enter Try.func25, Try.ntmps25
  go_wp2_with (at_range; refine wpList_range_own _ rfl _ 70 rfl 9 84 klaw Try.underlying70 fileElem ms _ (toD L) rfl HM.out ?_; intro w8 hr8 hg8 hs8)
  have HB8 := Lib.hid (show Below w.heap.size w w8 from ⟨hg8.os, hg8.tape, hg8.output, hg8.size, fun k hk => hg8.block k hk (by simp)⟩)
  have HR8 := Lib.hid hr8
  clear hg8 hs8 hr8
  go_frame
  go_loopw [5] (fun v wr => ∃ (left : Lit → Bool) (cnt : Nat) (xs : List ByteArray) (A2 : Option Addr) (c2 : Nat), v = .slice A2 xs.length c2 ∧ wr.ranges (H := Unit) Try.prog 9 fileElem ms w.heap.size L.length (toD L) left cnt ∧ wr.ownsRow w.heap.size 9 1 v xs.length (xs.flatMap scells) ∧ xs.Perm (listF (come L left) pre) ∧ Below w.heap.size w wr) (fun _ wr => wr.rangeLeft ms w.heap.size)
  case atStart => exact ⟨_, _, [], none, 0, rfl, HR8.out, ⟨rfl, .inl ⟨rfl, rfl⟩⟩, by rw [come_start]; exact List.Perm.refl _, HB8.out⟩
  case round =>
    obtain ⟨left, cnt, xs, A2, cc, rfl, hrg, hown, hperm, hbw⟩ := hrel
    have hxl : xs.length ≤ 10000 := by
      rw [hperm.length_eq]
      exact Nat.le_trans (listF_len _ _) (Nat.le_trans (List.length_filter_le _ _) hl)
    have HII := Lib.hid (And.intro hrg (And.intro hown (And.intro hperm hbw)))
    clear hrg hown hperm hbw
    go_wp2_with (at_next; refine wpList_next_file _ rfl _ rfl ms w.heap.size L.length L left cnt rfl HII.out.1 ?_ ?_)
    · intro hl0
      have hp9 := HII.out.2.2.1
      rw [come_end L hl0] at hp9
      have HS := Lib.hid (sort_any wr w.heap.size _ xs (listF L pre) HII.out.2.1 hp9 (listF_rise HR.out pre) (by omega))
      have HP9 := Lib.hid hp9
      clear hl0 hp9
      go_wp2_with fail
      refine HS.out.mono ?_
      rintro r w9 ⟨rfl, ho9, hg9⟩
      go_wp2
      go_ret
      have e9 : xs.length = (listF L pre).length := HP9.out.length_eq
      refine ⟨⟨A2, cc, by rw [← e9]; rfl, by rw [← e9]; rw [← e9] at ho9; exact ho9⟩, ?_⟩
      exact HII.out.2.2.2.grown hg9 HII.out.2.2.2.size (fun i hi => (HII.out.2.1.lt i hi).1)
    · intro p t w1 cnt1 hpl hlk hf hrg1 hlt hg1 hs1 hen
      have hcl := come_list HR.out hlk hf pre
      have hown1 := ownsRow_same HII.out.2.1 (fun k hk => hg1.block k (HII.out.2.1.lt k hk).2 (fun e => row_ne_iter HII.out.2.1 HII.out.1 (by rw [hk]; exact e.symm)))
      have hb1 : Below w.heap.size w w1 := HII.out.2.2.2.grown hg1 HII.out.2.2.2.size (fun i hi => by injection hi with hi; omega)
      have HC := Lib.hid (has_any w1 p pre hpl hq)
      have hlq := HII.out.1.left_eq
      have HX := Lib.hid (And.intro hrg1 (And.intro hown1 (And.intro hb1 (And.intro hlt hlq))))
      have HPM := Lib.hid HII.out.2.2.1
      clear hlk hf hrg1 hlt hg1 hs1 hown1 hb1 HII hlq
      cases hbe : beginsB p pre
      · rw [hbe] at HC hcl
        have hcl' : (listF (come L left) pre).Perm (listF (come L (fun z => left z && !z.sameKey (pk p))) pre) := by simpa using hcl
        have HCL := Lib.hid hcl'
        clear hcl hcl'
        go_wp2_with fail
        refine HC.out.mono ?_
        rintro r w1 ⟨rfl, rfl⟩
        go_wp2
        go_roundw
        case rel => exact ⟨_, cnt1, xs, A2, cc, rfl, HX.out.1, HX.out.2.1, HPM.out.trans HCL.out, HX.out.2.2.1⟩
        case measure => rw [HX.out.1.left_eq, HX.out.2.2.2.2]; exact HX.out.2.2.2.1
      · rw [hbe] at HC hcl
        have hcl' : (p :: listF (come L left) pre).Perm (listF (come L (fun z => left z && !z.sameKey (pk p))) pre) := by simpa using hcl
        have HCL := Lib.hid hcl'
        clear hcl hcl'
        go_wp2_with fail
        refine HC.out.mono ?_
        rintro r w1 ⟨rfl, rfl⟩
        have hb1 := HX.out.2.2.1
        obtain ⟨v', w', hrun, hown', hgr, hat⟩ := app_recs HE.out scells_len scells_one (w1.alloc (.cells #[.string p] 9)) w.heap.size _ xs [p] (some ⟨w1.heap.size, 0, none⟩) 1 _ 40 (HX.out.2.1.alloc _) (one_str w1 p) (by omega) (by simp) (by have := hb1.size; simp; omega)
        have hbl2 : Below w.heap.size w w' := (hb1.alloc hb1.size _).grown hgr (by have := hb1.size; simp; omega) (fun i hi => (HX.out.2.1.lt i hi).1)
        obtain ⟨A3, c3, rfl, _, _⟩ := recs_own scells_len (by omega) hown'
        have hrk := (HX.out.1.alloc (.cells #[.string p] 9)).kept hgr (row_ne_low HX.out.2.1 hml) (row_ne_iter HX.out.2.1 HX.out.1)
        have HO := Lib.hid (And.intro hown' (And.intro hbl2 hrk))
        have HRUN := Lib.hid hrun
        clear hb1 hrun hown' hgr hat hbl2 hrk
        obtain ⟨n1, hn1⟩ : ∃ n1, n1 = (xs ++ [p]).length := ⟨_, rfl⟩
        rw [← hn1] at HRUN
        have HN1 := Lib.hid hn1
        clear hn1
        go_wp2_with (at_builtin; refine Hr.wpList_append_run rfl (.tmp 23) (.tmp 25) 40 40 rfl _ _ _ w' rfl rfl HRUN.out ?_)
        go_roundw
        case rel => exact ⟨_, cnt1, xs ++ [p], A3, c3, by rw [HN1.out], HO.out.2.2, by rw [HN1.out]; exact HO.out.1, (List.perm_append_comm.trans ((List.Perm.cons p HPM.out))).trans HCL.out, HO.out.2.1⟩
        case measure => rw [HO.out.2.2.left_eq, HX.out.2.2.2.2]; exact HX.out.2.2.2.1
set_option maxRecDepth 100000 in
theorem list_down (w : World) (b : Nat) (s : Raw) (F : List Nat) (h : RawAt w b s F) (hd : s.down = true) (pre : ByteArray) :
    Calls Try.prog 25 #[.pointer (some ⟨b, 0, none⟩), .string pre] w fun r w' => r = .returned (.slice none 0 0) ∧ w' = w := by
  obtain ⟨ml, ms, A, c, hb, -⟩ := h
  have c8 := (nine hb).c8
  rw [hd] at c8
  clear hb
  go_enter Try.func25, Try.ntmps25
  go_wp2
  go_ret
  exact ⟨rfl, rfl⟩
end Go.Proofs.Ytdgfbpkpfmdjjaa.Hk
