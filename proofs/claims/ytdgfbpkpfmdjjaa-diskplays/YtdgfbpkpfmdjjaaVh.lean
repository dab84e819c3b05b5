/-
  The document's Do (layer 7).
-/
import Derived.Test.YtdgfbpkpfmdjjaaVf
import Derived.Test.YtdgfbpkpfmdjjaaFrk
namespace Go.Proofs.Ytdgfbpkpfmdjjaa.Hk
open Go.RowKit Hr Hw
set_option linter.unusedVariables false

def badB (e : Ef) : Bool := (decide (e.1 = 1) && !pathB e.2.1) || (decide (e.1 = 2) && !pathB e.2.2)
def lackB (l : List Fl) (e : Ef) : Bool := decide (e.1 ≠ 1) && !(findF l e.2.1).isSome
def fullB (l : List Fl) (room : Int) (e : Ef) : Bool := decide (e.1 ≠ 3) && (decide (4096 < (doneF l e).length) || decide (room < (takenF (doneF l e) : Int)))
def doF (d : Dsk) (e : Ef) : Dsk × Int :=
  if d.down = true then (d, 8) else if badB e = true then (d, 12) else if lackB (seenF d.lies d.rows) e = true then (d, 5) else if fullB (seenF d.lies d.rows) d.room e = true then (d, 7)
  else ((callF { d with rows := d.rows ++ [e] }).1, if (callF { d with rows := d.rows ++ [e] }).2 = true then 8 else 0)
theorem one_ef (w : World) (e : Ef) : Efs (w.alloc (.cells #[.int .i64 e.1, .string e.2.1, .string e.2.2] 46)) (w.alloc (.cells #[.int .i64 e.1, .string e.2.1, .string e.2.2] 46)).heap.size (some ⟨w.heap.size, 0, none⟩) [e] := fun i hi => by
  have hi0 : i = 0 := by simpa using hi
  subst hi0
  refine ⟨_, rfl, by simp, fun j' hj' => ?_⟩
  have hblk := heap_alloc_new w (.cells #[.int .i64 e.1, .string e.2.1, .string e.2.2] 46)
  rw [add_add, Addr.add_lit]
  simp only [World.cell?, hblk]
  have h2 : j' = 0 ∨ j' = 1 ∨ j' = 2 := by omega
  rcases h2 with rfl | rfl | rfl <;> rfl
theorem kept_ef {w w' : World} {e : Ef} {b : Nat} {row : Option Nat} (h : Efs w w.heap.size (some ⟨b, 0, none⟩) [e]) (hg : w.grownBy w' row) (hne : some b ≠ row) : Efs w' w'.heap.size (some ⟨b, 0, none⟩) [e] := fun i hi => by
  obtain ⟨ad, e, hlt, hc⟩ := h i hi
  injection e with e
  subst e
  refine ⟨_, rfl, Nat.lt_of_lt_of_le hlt hg.size, fun j hj => ?_⟩
  rw [← hc j hj]
  exact World.cell?_of_block (w := w) (by rw [block_of_add, block_of_add]; exact hg.block b hlt hne)
def ordD : Tr3 := .take 1 0 (.take 4 2 (.fork3 0 2 5 18 (.fork 2 5 19 (.fork 3 5 23 (.call 5 31 (.call 6 63 (.take 7 127 (.call 8 255 .done)))) (.call 3 55 (.call 6 63 (.take 7 127 (.call 8 255 .done))))) (.call 2 51 (.call 3 55 (.call 6 63 (.take 7 127 (.call 8 255 .done)))))) (.fork 0 5 22 (.fork 3 5 23 (.call 5 31 (.call 6 63 (.take 7 127 (.call 8 255 .done)))) (.call 3 55 (.call 6 63 (.take 7 127 (.call 8 255 .done))))) (.call 0 54 (.call 3 55 (.call 6 63 (.take 7 127 (.call 8 255 .done)))))) (.fork 0 2 50 (.call 2 51 (.call 3 55 (.call 6 63 (.take 7 127 (.call 8 255 .done))))) (.call 0 54 (.call 3 55 (.call 6 63 (.take 7 127 (.call 8 255 .done))))))))
theorem store_rows {w w6 : World} {N0 : Nat} {Al Ar A7 : Option Addr} {cl cr c7 : Nat} {room at_ keep left kd : Int} {lies : List Fl} {rs rs2 : List Ef} {p t : ByteArray} (ho : w6.ownsRow N0 46 3 (.slice A7 rs2.length c7) rs2.length (rs2.flatMap ecells)) (hd0 : w6.heap[w.heap.size]? = some (.cells (dcells Al cl Ar cr ⟨room, lies, rs, false, at_, keep, left⟩) 35)) (hd1 : w6.heap[w.heap.size + 1]? = some (.cells #[.int .i64 kd, .string p, .string t] 46)) (hd2 : w6.heap[w.heap.size + 2]? = some (.cells (dcells none 0 none 0 zeroD) 35)) (hb : Below w.heap.size w w6) (hN : w.heap.size + 3 ≤ N0) (hz : w.heap.size + 2 < w6.heap.size) :
    ((w6.setCell ⟨w.heap.size, 2, none⟩ (.slice A7 rs2.length c7)).cell? ⟨w.heap.size + 1, 0, none⟩ = some (.int .i64 kd) ∧ (w6.setCell ⟨w.heap.size, 2, none⟩ (.slice A7 rs2.length c7)).cell? ⟨w.heap.size + 1, 1, none⟩ = some (.string p) ∧ (w6.setCell ⟨w.heap.size, 2, none⟩ (.slice A7 rs2.length c7)).cell? ⟨w.heap.size + 1, 2, none⟩ = some (.string t)) ∧
    (w6.setCell ⟨w.heap.size, 2, none⟩ (.slice A7 rs2.length c7)).heap[w.heap.size]? = some (.cells (dcells Al cl A7 c7 ⟨room, lies, rs2, false, at_, keep, left⟩) 35) ∧ (w6.setCell ⟨w.heap.size, 2, none⟩ (.slice A7 rs2.length c7)).heap[w.heap.size + 2]? = some (.cells (dcells none 0 none 0 zeroD) 35) ∧ Efs (w6.setCell ⟨w.heap.size, 2, none⟩ (.slice A7 rs2.length c7)) (w6.setCell ⟨w.heap.size, 2, none⟩ (.slice A7 rs2.length c7)).heap.size A7 rs2 ∧ (∀ ad, A7 = some ad → w.heap.size + 3 ≤ ad.block) ∧ Below w.heap.size w (w6.setCell ⟨w.heap.size, 2, none⟩ (.slice A7 rs2.length c7)) := by
  have hk : ∀ j, j ≠ w.heap.size → (w6.setCell ⟨w.heap.size, 2, none⟩ (.slice A7 rs2.length c7)).heap[j]? = w6.heap[j]? := fun j hj => Below.heap_setCell _ _ _ _ hj
  have hs := st_size w6 ⟨w.heap.size, 2, none⟩ (.slice A7 rs2.length c7)
  have h1 := (hk (w.heap.size + 1) (by omega)).trans hd1
  have hnew : ∀ ad, A7 = some ad → w.heap.size + 3 ≤ ad.block := fun ad ha => own_ge ho hN ha
  obtain ⟨A8, c8, e8, _, hr⟩ := recs_own ecells_len (by omega) ho
  injection e8 with e8 _ _
  subst e8
  refine ⟨⟨by rw [cell_of_cells h1]; rfl, by rw [cell_of_cells h1]; rfl, by rw [cell_of_cells h1]; rfl⟩, heap_setCell_cells hd0 2 _, (hk _ (by omega)).trans hd2, ?_, hnew, ⟨hb.os, hb.tape, hb.output, Nat.le_trans hb.size (Nat.le_of_eq hs.symm), fun j hj => (hk j (by omega)).trans (hb.block j hj)⟩⟩
  refine recs_keep (fun j => j = w.heap.size) hr (fun hn ad ha e => ?_) (Nat.le_of_eq hs.symm) (fun j _ hn => hk j hn)
  have := hnew ad ha
  omega
set_option maxHeartbeats 8000000 in
set_option maxRecDepth 100000 in
theorem do_any (w : World) (B : Nat) (v : Value) (d : Dsk) (e : Ef) (h : DkV w B v d) (hB : B ≤ w.heap.size) (h0 : 0 ≤ d.left) (hmx : d.left ≤ 9223372036854775807) (hl : d.lies.length + d.rows.length ≤ 2000) (hk0 : 0 ≤ d.keep) (hk1 : d.keep < 18446744073709551616)
    (hp1 : e.2.1.size ≤ maxLen) (hp2 : e.2.2.size ≤ maxLen) (htk : takenF (doneF (seenF d.lies d.rows) e) ≤ 4611686018427387904) :
    Calls Try.prog 13 #[v, .agg #[.int .i64 e.1, .string e.2.1, .string e.2.2]] w fun r w' => (∃ v', r = .returned (.tuple #[v', .int .i64 (doF d e).2]) ∧ DkN w' B w.heap.size v' (doF d e).1) ∧ Below w.heap.size w w' := by
  have h' := h
  obtain ⟨Al, cl, Ar, cr, rfl, hf, he⟩ := h
  obtain ⟨room, lies, rs, down, at_, keep, left⟩ := d
  obtain ⟨kd, p, t⟩ := e
  simp only at hf he h0 hmx hl hk0 hk1 hp1 hp2 htk ⊢
  have HX := Lib.hid (And.intro hf (And.intro he h'))
  clear hf he h'
  cases down with
  | true =>
    have HD := Lib.hid (show doF ⟨room, lies, rs, true, at_, keep, left⟩ (kd, p, t) = (⟨room, lies, rs, true, at_, keep, left⟩, 8) by simp [doF])
    go_enter Try.func13, Try.ntmps13
    go_wp2
    have hbe : Below w.heap.size w (((w.alloc (.cells (dcells Al cl Ar cr ⟨room, lies, rs, true, at_, keep, left⟩) 35)).alloc (.cells #[.int .i64 kd, .string p, .string t] 46)).alloc (.cells (dcells Al cl Ar cr ⟨room, lies, rs, true, at_, keep, left⟩) 35)) := (((Below.refl _ w).alloc (Nat.le_refl _) _).alloc (by simp) _).alloc (by simp; omega) _
    have hg : (((w.alloc (.cells (dcells Al cl Ar cr ⟨room, lies, rs, true, at_, keep, left⟩) 35)).alloc (.cells #[.int .i64 kd, .string p, .string t] 46)).alloc (.cells (dcells Al cl Ar cr ⟨room, lies, rs, true, at_, keep, left⟩) 35)).heap[w.heap.size + 1 + 1]? = some (.cells (dcells Al cl Ar cr ⟨room, lies, rs, true, at_, keep, left⟩) 35) := by
      have h9 := heap_alloc_new ((w.alloc (.cells (dcells Al cl Ar cr ⟨room, lies, rs, true, at_, keep, left⟩) 35)).alloc (.cells #[.int .i64 kd, .string p, .string t] 46)) (.cells (dcells Al cl Ar cr ⟨room, lies, rs, true, at_, keep, left⟩) 35)
      rwa [World.size_alloc, World.size_alloc] at h9
    refine bodyPost_ret (dk_ret Try.results13 _ _ (w.heap.size + 1 + 1) Al cl Ar cr ⟨room, lies, rs, true, at_, keep, left⟩ rfl hg) rfl ?_
    rw [HD.out]
    refine ⟨⟨_, rfl, Al, cl, Ar, cr, rfl, ?_, ?_, blk_recs HX.out.1, blk_recs HX.out.2.1⟩, hbe⟩
    · exact (HX.out.1.below (hbe.mono hB)).mono (Nat.le_trans hB hbe.size)
    · exact (HX.out.2.1.below (hbe.mono hB)).mono (Nat.le_trans hB hbe.size)
  | false =>
    have hb0 : Below w.heap.size w (((w.alloc (.cells (dcells Al cl Ar cr ⟨room, lies, rs, false, at_, keep, left⟩) 35)).alloc (.cells #[.int .i64 kd, .string p, .string t] 46)).alloc (.cells (dcells none 0 none 0 zeroD) 35)) := (((Below.refl _ w).alloc (Nat.le_refl _) _).alloc (by simp) _).alloc (by simp; omega) _
    have hz0 : (((w.alloc (.cells (dcells Al cl Ar cr ⟨room, lies, rs, false, at_, keep, left⟩) 35)).alloc (.cells #[.int .i64 kd, .string p, .string t] 46)).alloc (.cells (dcells none 0 none 0 zeroD) 35)).heap.size = w.heap.size + 3 := by simp
    have hg0 : (((w.alloc (.cells (dcells Al cl Ar cr ⟨room, lies, rs, false, at_, keep, left⟩) 35)).alloc (.cells #[.int .i64 kd, .string p, .string t] 46)).alloc (.cells (dcells none 0 none 0 zeroD) 35)).heap[w.heap.size]? = some (.cells (dcells Al cl Ar cr ⟨room, lies, rs, false, at_, keep, left⟩) 35) := ((Below.heap_alloc _ _ _ (by simp; omega)).trans (Below.heap_alloc _ _ _ (by simp))).trans (heap_alloc_new w _)
    have hg1 : (((w.alloc (.cells (dcells Al cl Ar cr ⟨room, lies, rs, false, at_, keep, left⟩) 35)).alloc (.cells #[.int .i64 kd, .string p, .string t] 46)).alloc (.cells (dcells none 0 none 0 zeroD) 35)).heap[w.heap.size + 1]? = some (.cells #[.int .i64 kd, .string p, .string t] 46) := by
      have h9 := heap_alloc_new (w.alloc (.cells (dcells Al cl Ar cr ⟨room, lies, rs, false, at_, keep, left⟩) 35)) (.cells #[.int .i64 kd, .string p, .string t] 46)
      rw [World.size_alloc] at h9
      exact (Below.heap_alloc _ _ _ (by simp)).trans h9
    have hg2 : (((w.alloc (.cells (dcells Al cl Ar cr ⟨room, lies, rs, false, at_, keep, left⟩) 35)).alloc (.cells #[.int .i64 kd, .string p, .string t] 46)).alloc (.cells (dcells none 0 none 0 zeroD) 35)).heap[w.heap.size + 2]? = some (.cells (dcells none 0 none 0 zeroD) 35) := by
      have h9 := heap_alloc_new ((w.alloc (.cells (dcells Al cl Ar cr ⟨room, lies, rs, false, at_, keep, left⟩) 35)).alloc (.cells #[.int .i64 kd, .string p, .string t] 46)) (.cells (dcells none 0 none 0 zeroD) 35)
      rwa [World.size_alloc, World.size_alloc] at h9
    have hC1 := seen_any (((w.alloc (.cells (dcells Al cl Ar cr ⟨room, lies, rs, false, at_, keep, left⟩) 35)).alloc (.cells #[.int .i64 kd, .string p, .string t] 46)).alloc (.cells (dcells none 0 none 0 zeroD) 35)) B _ ⟨room, lies, rs, false, at_, keep, left⟩ (HX.out.2.2.below (hb0.mono hB)) (Nat.le_trans hB hb0.size) (by simp only; omega)
    simp only at hC1
    rw [hz0] at hC1
    have HC1 := Lib.hid hC1
    have HG0 := Lib.hid (And.intro hg0 (And.intro hg1 hg2))
    have HB0 := Lib.hid hb0
    have HZ0 := Lib.hid hz0
    clear hC1 hg0 hg1 hg2 hb0 hz0
    have hLl := seenF_len rs lies
    obtain ⟨L, hL⟩ : ∃ L, seenF lies rs = L := ⟨_, rfl⟩
    rw [hL] at HC1 hLl htk
    have HL := Lib.hid hL
    clear hL
    go_enter Try.func13, Try.ntmps13
    go_wp2_with fail
    refine HC1.out.mono ?_
    rintro r w1 ⟨⟨A1, c1, rfl, hf1, hn1⟩, hb1⟩
    have hg0 : w1.heap[w.heap.size]? = some (.cells (dcells Al cl Ar cr ⟨room, lies, rs, false, at_, keep, left⟩) 35) := (hb1.block _ (by omega)).trans HG0.out.1
    have hg1 : w1.heap[w.heap.size + 1]? = some (.cells #[.int .i64 kd, .string p, .string t] 46) := (hb1.block _ (by omega)).trans HG0.out.2.1
    have hg2 : w1.heap[w.heap.size + 2]? = some (.cells (dcells none 0 none 0 zeroD) 35) := (hb1.block _ (by omega)).trans HG0.out.2.2
    have HG := Lib.hid (And.intro hg0 (And.intro hg1 hg2))
    have hz1 : w.heap.size + 3 ≤ w1.heap.size := by have h9 := hb1.size; rw [HZ0.out] at h9; exact h9
    have f2 := fun i => unfrozen_of_cells hg2 i
    have f0 := fun i => unfrozen_of_cells hg0 i
    have j0 : w1.cell? ⟨w.heap.size, 0, none⟩ = some (.int .i64 room) := by rw [cell_of_cells hg0]; rfl
    have j1 : w1.cell? ⟨w.heap.size, 1, none⟩ = some (.slice Al lies.length cl) := by rw [cell_of_cells hg0]; rfl
    have j2 : w1.cell? ⟨w.heap.size, 2, none⟩ = some (.slice Ar rs.length cr) := by rw [cell_of_cells hg0]; rfl
    have j3 : w1.cell? ⟨w.heap.size, 3, none⟩ = some (.bool false) := by rw [cell_of_cells hg0]; rfl
    have j4 : w1.cell? ⟨w.heap.size, 4, none⟩ = some (.int .i64 at_) := by rw [cell_of_cells hg0]; rfl
    have j5 : w1.cell? ⟨w.heap.size, 5, none⟩ = some (.int .u64 keep) := by rw [cell_of_cells hg0]; rfl
    have j6 : w1.cell? ⟨w.heap.size, 6, none⟩ = some (.int .i64 left) := by rw [cell_of_cells hg0]; rfl
    have e0 : w1.cell? ⟨w.heap.size + 1, 0, none⟩ = some (.int .i64 kd) := by rw [cell_of_cells hg1]; rfl
    have e1 : w1.cell? ⟨w.heap.size + 1, 1, none⟩ = some (.string p) := by rw [cell_of_cells hg1]; rfl
    have e2 : w1.cell? ⟨w.heap.size + 1, 2, none⟩ = some (.string t) := by rw [cell_of_cells hg1]; rfl
    have i0 : w1.cell? ⟨w.heap.size + 2, 0, none⟩ = some (.int .i64 0) := by rw [cell_of_cells hg2]; rfl
    have i1 : w1.cell? ⟨w.heap.size + 2, 1, none⟩ = some (.slice none 0 0) := by rw [cell_of_cells hg2]; rfl
    have i2 : w1.cell? ⟨w.heap.size + 2, 2, none⟩ = some (.slice none 0 0) := by rw [cell_of_cells hg2]; rfl
    have i3 : w1.cell? ⟨w.heap.size + 2, 3, none⟩ = some (.bool false) := by rw [cell_of_cells hg2]; rfl
    have i4 : w1.cell? ⟨w.heap.size + 2, 4, none⟩ = some (.int .i64 0) := by rw [cell_of_cells hg2]; rfl
    have i5 : w1.cell? ⟨w.heap.size + 2, 5, none⟩ = some (.int .u64 0) := by rw [cell_of_cells hg2]; rfl
    have i6 : w1.cell? ⟨w.heap.size + 2, 6, none⟩ = some (.int .i64 0) := by rw [cell_of_cells hg2]; rfl
    have HB1 := Lib.hid (HB0.out.trans (hb1.mono (by omega)))
    have HF1 := Lib.hid (And.intro hf1 hn1)
    clear hg0 hg1 hg2 hb1 hf1 hn1 HC1 HG0 HB0 HZ0
    go_wp2_with fail
    refine (find_any w1 w1.heap.size A1 c1 L p HF1.out.1 (by omega)).mono ?_
    rintro r w1' ⟨rfl, hw1⟩
    subst hw1
    go_upto_region 5 with fail
    go_cut [43] (fun s43 wx => s43 = .bool (badB (kd, p, t)) ∧ w1' = wx)
    case first =>
      by_cases h1 : kd = 1
      · subst h1
        cases hpp : pathB p with
        | true =>
          go_wp2_with fail
          refine (path_any w1' p (by assumption)).mono ?_
          rintro r w9 ⟨rfl, hw9⟩
          subst hw9
          rw [hpp]
          go_wp2
          go_meet
          exact ⟨by simp [badB, hpp], rfl⟩
        | false =>
          go_wp2_with fail
          refine (path_any w1' p (by assumption)).mono ?_
          rintro r w9 ⟨rfl, hw9⟩
          subst hw9
          rw [hpp]
          go_wp2
          go_meet
          exact ⟨by simp [badB, hpp], rfl⟩
      · have hb1 : (kd == 1) = false := by simpa using h1
        by_cases h2 : kd = 2
        · subst h2
          cases hpp : pathB t with
          | true =>
            go_wp2_with fail
            refine (path_any w1' t (by assumption)).mono ?_
            rintro r w9 ⟨rfl, hw9⟩
            subst hw9
            rw [hpp]
            go_wp2
            go_meet
            exact ⟨by simp [badB, hpp], rfl⟩
          | false =>
            go_wp2_with fail
            refine (path_any w1' t (by assumption)).mono ?_
            rintro r w9 ⟨rfl, hw9⟩
            subst hw9
            rw [hpp]
            go_wp2
            go_meet
            exact ⟨by simp [badB, hpp], rfl⟩
        · have hb2 : (kd == 2) = false := by simpa using h2
          go_wp2
          go_meet
          exact ⟨by simp [badB, h1, h2], rfl⟩
    case rest =>
      obtain ⟨rfl, hwx⟩ := hcut
      subst hwx
      cases hbad : badB (kd, p, t) with
      | true =>
        have HD := Lib.hid (show doF ⟨room, lies, rs, false, at_, keep, left⟩ (kd, p, t) = (⟨room, lies, rs, false, at_, keep, left⟩, 12) by simp [doF, hbad])
        clear hbad
        go_wp2
        obtain ⟨g1, g2, g3, g4, g5, g6⟩ := dk_seven (w := w) (w1 := w1') (b := w.heap.size + 2) rfl Al cl Ar cr ⟨room, lies, rs, false, at_, keep, left⟩ HG.out.2.2 rfl
        refine bodyPost_ret (dk_ret Try.results13 _ _ (w.heap.size + 2) Al cl Ar cr ⟨room, lies, rs, false, at_, keep, left⟩ rfl g1) rfl ?_
        rw [HD.out]
        have hbe : Below w.heap.size w _ := ⟨g4.trans HB1.out.os, g5.trans HB1.out.tape, g6.trans HB1.out.output, Nat.le_trans HB1.out.size (Nat.le_of_eq g2.symm), fun k hk => (g3 k (by omega)).trans (HB1.out.block k hk)⟩
        refine ⟨⟨_, rfl, Al, cl, Ar, cr, rfl, ?_, ?_, blk_recs HX.out.1, blk_recs HX.out.2.1⟩, hbe⟩
        · exact (HX.out.1.below (hbe.mono hB)).mono (Nat.le_trans hB hbe.size)
        · exact (HX.out.2.1.below (hbe.mono hB)).mono (Nat.le_trans hB hbe.size)
      | false =>
        obtain ⟨fs, hfs⟩ : ∃ fs, (findF L p).isSome = fs := ⟨_, rfl⟩
        obtain ⟨tx, htx⟩ : ∃ tx, texOf (findF L p) = tx := ⟨_, rfl⟩
        rw [hfs, htx]
        have HFS := Lib.hid hfs
        clear hfs htx
        go_upto_region 7 with fail
        go_cut [51] (fun s51 wx => s51 = .bool (lackB L (kd, p, t)) ∧ w1' = wx)
        case first =>
          by_cases h1 : kd = 1
          · subst h1
            go_wp2
            go_meet
            exact ⟨by simp [lackB], rfl⟩
          · have hb1 : (kd != 1) = true := by simpa using h1
            have hfs := HFS.out
            cases fs with
            | true =>
              go_wp2
              go_meet
              exact ⟨by simp [lackB, h1, hfs], rfl⟩
            | false =>
              go_wp2
              go_meet
              exact ⟨by simp [lackB, h1, hfs], rfl⟩
        case rest =>
          obtain ⟨rfl, hwx⟩ := hcut
          subst hwx
          cases hlk : lackB L (kd, p, t) with
          | true =>
            have HD := Lib.hid (show doF ⟨room, lies, rs, false, at_, keep, left⟩ (kd, p, t) = (⟨room, lies, rs, false, at_, keep, left⟩, 5) by simp [doF, hbad, HL.out, hlk])
            clear hbad hlk
            go_wp2
            obtain ⟨g1, g2, g3, g4, g5, g6⟩ := dk_seven (w := w) (w1 := w1') (b := w.heap.size + 2) rfl Al cl Ar cr ⟨room, lies, rs, false, at_, keep, left⟩ HG.out.2.2 rfl
            refine bodyPost_ret (dk_ret Try.results13 _ _ (w.heap.size + 2) Al cl Ar cr ⟨room, lies, rs, false, at_, keep, left⟩ rfl g1) rfl ?_
            rw [HD.out]
            have hbe : Below w.heap.size w _ := ⟨g4.trans HB1.out.os, g5.trans HB1.out.tape, g6.trans HB1.out.output, Nat.le_trans HB1.out.size (Nat.le_of_eq g2.symm), fun k hk => (g3 k (by omega)).trans (HB1.out.block k hk)⟩
            refine ⟨⟨_, rfl, Al, cl, Ar, cr, rfl, ?_, ?_, blk_recs HX.out.1, blk_recs HX.out.2.1⟩, hbe⟩
            · exact (HX.out.1.below (hbe.mono hB)).mono (Nat.le_trans hB hbe.size)
            · exact (HX.out.2.1.below (hbe.mono hB)).mono (Nat.le_trans hB hbe.size)
          | false =>
            have hNl := doneF_len L (kd, p, t)
            obtain ⟨N, hN⟩ : ∃ N, doneF L (kd, p, t) = N := ⟨_, rfl⟩
            have HC2 := Lib.hid (done_any w1' w1'.heap.size A1 c1 L (kd, p, t) HF1.out.1 (Nat.le_refl _) (by omega))
            rw [hN] at HC2 hNl htk
            have HNN := Lib.hid hN
            clear hN
            simp only at HC2
            go_wp2_with fail
            refine HC2.out.mono ?_
            rintro r w2 ⟨⟨A2, c2, rfl, hf2, _⟩, hb2⟩
            have hg0 : w2.heap[w.heap.size]? = some (.cells (dcells Al cl Ar cr ⟨room, lies, rs, false, at_, keep, left⟩) 35) := (hb2.block _ (by omega)).trans HG.out.1
            have hg1 : w2.heap[w.heap.size + 1]? = some (.cells #[.int .i64 kd, .string p, .string t] 46) := (hb2.block _ (by omega)).trans HG.out.2.1
            have hg2 : w2.heap[w.heap.size + 2]? = some (.cells (dcells none 0 none 0 zeroD) 35) := (hb2.block _ (by omega)).trans HG.out.2.2
            clear j0 j1 j2 j3 j4 j5 j6 e0 e1 e2 i0 i1 i2 i3 i4 i5 i6 f0 f2
            have f2 := fun i => unfrozen_of_cells hg2 i
            have f0 := fun i => unfrozen_of_cells hg0 i
            have j0 : w2.cell? ⟨w.heap.size, 0, none⟩ = some (.int .i64 room) := by rw [cell_of_cells hg0]; rfl
            have j1 : w2.cell? ⟨w.heap.size, 1, none⟩ = some (.slice Al lies.length cl) := by rw [cell_of_cells hg0]; rfl
            have j2 : w2.cell? ⟨w.heap.size, 2, none⟩ = some (.slice Ar rs.length cr) := by rw [cell_of_cells hg0]; rfl
            have j3 : w2.cell? ⟨w.heap.size, 3, none⟩ = some (.bool false) := by rw [cell_of_cells hg0]; rfl
            have j4 : w2.cell? ⟨w.heap.size, 4, none⟩ = some (.int .i64 at_) := by rw [cell_of_cells hg0]; rfl
            have j5 : w2.cell? ⟨w.heap.size, 5, none⟩ = some (.int .u64 keep) := by rw [cell_of_cells hg0]; rfl
            have j6 : w2.cell? ⟨w.heap.size, 6, none⟩ = some (.int .i64 left) := by rw [cell_of_cells hg0]; rfl
            have e0 : w2.cell? ⟨w.heap.size + 1, 0, none⟩ = some (.int .i64 kd) := by rw [cell_of_cells hg1]; rfl
            have e1 : w2.cell? ⟨w.heap.size + 1, 1, none⟩ = some (.string p) := by rw [cell_of_cells hg1]; rfl
            have e2 : w2.cell? ⟨w.heap.size + 1, 2, none⟩ = some (.string t) := by rw [cell_of_cells hg1]; rfl
            have i0 : w2.cell? ⟨w.heap.size + 2, 0, none⟩ = some (.int .i64 0) := by rw [cell_of_cells hg2]; rfl
            have i1 : w2.cell? ⟨w.heap.size + 2, 1, none⟩ = some (.slice none 0 0) := by rw [cell_of_cells hg2]; rfl
            have i2 : w2.cell? ⟨w.heap.size + 2, 2, none⟩ = some (.slice none 0 0) := by rw [cell_of_cells hg2]; rfl
            have i3 : w2.cell? ⟨w.heap.size + 2, 3, none⟩ = some (.bool false) := by rw [cell_of_cells hg2]; rfl
            have i4 : w2.cell? ⟨w.heap.size + 2, 4, none⟩ = some (.int .i64 0) := by rw [cell_of_cells hg2]; rfl
            have i5 : w2.cell? ⟨w.heap.size + 2, 5, none⟩ = some (.int .u64 0) := by rw [cell_of_cells hg2]; rfl
            have i6 : w2.cell? ⟨w.heap.size + 2, 6, none⟩ = some (.int .i64 0) := by rw [cell_of_cells hg2]; rfl
            have hz2 : w.heap.size + 3 ≤ w2.heap.size := Nat.le_trans hz1 hb2.size
            have HB2 := Lib.hid (HB1.out.trans (hb2.mono HB1.out.size))
            have HF2 := Lib.hid hf2
            have HG2 := Lib.hid (And.intro hg0 (And.intro hg1 hg2))
            clear hg0 hg1 hg2 hb2 hf2 HC2
            go_upto_region 10 with fail
            go_cut [70] (fun s70 wx => s70 = .bool (fullB L room (kd, p, t)) ∧ Below w2.heap.size w2 wx)
            case first =>
              by_cases h3 : kd = 3
              · subst h3
                go_wp2_with fail
                refine wp_region_seq (fun W => W.cell? ⟨w.heap.size + 1, 0, none⟩ = some (.int .i64 3) ∧ W.cell? ⟨w.heap.size, 0, none⟩ = some (.int .i64 room)) [(0, false, 0), (1, false, 1), (2, false, 3), (3, false, 7), (4, false, 15), (5, false, 31), (6, false, 63), (7, false, 127), (8, false, 255), (9, false, 511), (10, false, 1023), (11, false, 2047), (12, false, 4095), (13, false, 8191), (14, false, 16383)]
                  15 (by kernel_rfl) (by kernel_rfl) (by kernel_rfl) (fun d _ _ _ _ h => by cases d <;> exact h) (by kernel_rfl) (by kernel_rfl) ⟨by rw [World.cell?_drew]; exact e0, by rw [World.cell?_drew]; exact j0⟩ ?_
                refine seqH_take (.pointer (some ⟨w.heap.size + 1, 0, none⟩)) rfl (Or.inl ⟨by rfl, fun W hW => by go_simp⟩) ?_
                go_simp
                refine seqH_take (.int .i64 3) rfl (Or.inl ⟨by rfl, fun W hW => by have hcell := hW.1; clear hW; go_simp⟩) ?_
                go_simp
                refine seqH_take (.bool false) rfl (Or.inl ⟨by rfl, fun W hW => by go_simp⟩) ?_
                go_simp
                refine seqH_take (.bool false) rfl (Or.inl ⟨by rfl, fun W hW => by go_simp⟩) ?_
                go_simp
                refine seqH_take undef rfl (Or.inr ⟨by rfl, rfl⟩) ?_
                go_simp
                refine seqH_take undef rfl (Or.inr ⟨by rfl, rfl⟩) ?_
                go_simp
                refine seqH_take undef rfl (Or.inr ⟨by rfl, rfl⟩) ?_
                go_simp
                refine seqH_take undef rfl (Or.inr ⟨by rfl, rfl⟩) ?_
                go_simp
                refine seqH_take undef rfl (Or.inr ⟨by rfl, rfl⟩) ?_
                go_simp
                refine seqH_take undef rfl (Or.inr ⟨by rfl, rfl⟩) ?_
                go_simp
                refine seqH_take undef rfl (Or.inr ⟨by rfl, rfl⟩) ?_
                go_simp
                refine seqH_take undef rfl (Or.inr ⟨by rfl, rfl⟩) ?_
                go_simp
                refine seqH_take undef rfl (Or.inr ⟨by rfl, rfl⟩) ?_
                go_simp
                refine seqH_take undef rfl (Or.inr ⟨by rfl, rfl⟩) ?_
                go_simp
                refine seqH_take (.bool false) rfl (Or.inl ⟨by rfl, fun W hW => by go_simp⟩) ?_
                go_simp
                refine seqH_done ?_
                go_wp2
                go_meet
                exact ⟨by simp [fullB], (Below.refl _ w2).drew⟩
              · have hb3 : (kd != 3) = true := by simpa using h3
                go_wp2_with fail
                refine wp_region_seq (fun W => W.cell? ⟨w.heap.size + 1, 0, none⟩ = some (.int .i64 kd) ∧ W.cell? ⟨w.heap.size, 0, none⟩ = some (.int .i64 room)) [(0, false, 0), (1, false, 1), (2, false, 3), (3, false, 7), (4, false, 15), (5, false, 31), (6, false, 63), (7, false, 127), (8, false, 255), (10, false, 511), (11, false, 1535), (9, true, 3583), (12, false, 4095), (13, false, 8191), (14, false, 16383)]
                  15 (by kernel_rfl) (by kernel_rfl) (by kernel_rfl) (fun d _ _ _ _ h => by cases d <;> exact h) (by kernel_rfl) (by kernel_rfl) ⟨by rw [World.cell?_drew]; exact e0, by rw [World.cell?_drew]; exact j0⟩ ?_
                have hbd : Below w2.heap.size w2 w2.drew := (Below.refl _ w2).drew
                have m0 : w2.drew.cell? ⟨w.heap.size + 1, 0, none⟩ = some (.int .i64 kd) := by rw [World.cell?_drew]; exact e0
                have m1 : w2.drew.cell? ⟨w.heap.size, 0, none⟩ = some (.int .i64 room) := by rw [World.cell?_drew]; exact j0
                have hf3 := HF2.out.below hbd
                have HF3 := Lib.hid hf3
                clear hf3
                have hnl : ¬ (4096 : Int) < N.length := by omega
                generalize w2.drew = w3 at *
                have HBD := Lib.hid hbd
                have hz3 := hbd.size
                clear hbd
                refine seqH_take (.pointer (some ⟨w.heap.size + 1, 0, none⟩)) rfl (Or.inl ⟨by rfl, fun W hW => by go_simp⟩) ?_
                go_simp
                refine seqH_take (.int .i64 kd) rfl (Or.inl ⟨by rfl, fun W hW => by have hcell := hW.1; clear hW; go_simp⟩) ?_
                go_simp
                refine seqH_take (.bool true) rfl (Or.inl ⟨by rfl, fun W hW => by go_simp⟩) ?_
                go_simp
                refine seqH_take (.bool true) rfl (Or.inl ⟨by rfl, fun W hW => by go_simp⟩) ?_
                go_simp
                refine seqH_take (.slice A2 N.length c2) rfl (Or.inl ⟨by rfl, fun W hW => by go_simp⟩) ?_
                go_simp
                refine seqH_take (.int .i64 N.length) rfl (Or.inl ⟨by rfl, fun W hW => by go_simp⟩) ?_
                go_simp
                refine seqH_take (.bool false) rfl (Or.inl ⟨by rfl, fun W hW => by go_simp⟩) ?_
                go_simp
                refine seqH_take (.bool false) rfl (Or.inl ⟨by rfl, fun W hW => by go_simp⟩) ?_
                go_simp
                refine seqH_take (.slice A2 N.length c2) rfl (Or.inl ⟨by rfl, fun W hW => by go_simp⟩) ?_
                go_simp
                refine seqH_take (.pointer (some ⟨w.heap.size, 0, none⟩)) rfl (Or.inl ⟨by rfl, fun W hW => by go_simp⟩) ?_
                go_simp
                refine seqH_take (.int .i64 room) rfl (Or.inl ⟨by rfl, fun W hW => by have hcell := hW.2; clear hW; go_simp⟩) ?_
                go_simp
                refine seqH_call rfl (by rfl) (fun K hK => ?_)
                have HK := Lib.hid hK
                clear hK
                go_simp
                refine (taken_any w3 w2.heap.size A2 c2 N HF3.out hz3 (by omega) htk).mono ?_
                rintro r w4 ⟨rfl, hb4⟩
                refine HK.out _ _ ⟨(hb4.cell (p := ⟨w.heap.size + 1, 0, none⟩) (by show w.heap.size + 1 < _; omega)).trans m0, (hb4.cell (p := ⟨w.heap.size, 0, none⟩) (by show w.heap.size < _; omega)).trans m1⟩ ?_
                clear HK K
                go_simp
                refine seqH_take (.bool (decide (room < (takenF N : Int)))) rfl (Or.inl ⟨by rfl, fun W hW => by go_simp⟩) ?_
                go_simp
                refine seqH_take (.bool (decide (room < (takenF N : Int)))) rfl (Or.inl ⟨by rfl, fun W hW => by go_simp⟩) ?_
                go_simp
                refine seqH_take (.bool (decide (room < (takenF N : Int)))) rfl (Or.inl ⟨by rfl, fun W hW => by go_simp⟩) ?_
                go_simp
                refine seqH_done ?_
                have HB4 := Lib.hid (HBD.out.trans (hb4.mono hz3))
                clear hb4
                go_wp2
                go_meet
                exact ⟨by simp [fullB, h3, HNN.out]; omega, HB4.out⟩
            case rest =>
              obtain ⟨rfl, hbx⟩ := hcut
              have hzc := hbx.size
              have hg0 : wc.heap[w.heap.size]? = some (.cells (dcells Al cl Ar cr ⟨room, lies, rs, false, at_, keep, left⟩) 35) := (hbx.block _ (by omega)).trans HG2.out.1
              have hg1 : wc.heap[w.heap.size + 1]? = some (.cells #[.int .i64 kd, .string p, .string t] 46) := (hbx.block _ (by omega)).trans HG2.out.2.1
              have hg2 : wc.heap[w.heap.size + 2]? = some (.cells (dcells none 0 none 0 zeroD) 35) := (hbx.block _ (by omega)).trans HG2.out.2.2
              clear j0 j1 j2 j3 j4 j5 j6 e0 e1 e2 i0 i1 i2 i3 i4 i5 i6 f0 f2
              have f2 := fun i => unfrozen_of_cells hg2 i
              have f0 := fun i => unfrozen_of_cells hg0 i
              have j0 : wc.cell? ⟨w.heap.size, 0, none⟩ = some (.int .i64 room) := by rw [cell_of_cells hg0]; rfl
              have j1 : wc.cell? ⟨w.heap.size, 1, none⟩ = some (.slice Al lies.length cl) := by rw [cell_of_cells hg0]; rfl
              have j2 : wc.cell? ⟨w.heap.size, 2, none⟩ = some (.slice Ar rs.length cr) := by rw [cell_of_cells hg0]; rfl
              have j3 : wc.cell? ⟨w.heap.size, 3, none⟩ = some (.bool false) := by rw [cell_of_cells hg0]; rfl
              have j4 : wc.cell? ⟨w.heap.size, 4, none⟩ = some (.int .i64 at_) := by rw [cell_of_cells hg0]; rfl
              have j5 : wc.cell? ⟨w.heap.size, 5, none⟩ = some (.int .u64 keep) := by rw [cell_of_cells hg0]; rfl
              have j6 : wc.cell? ⟨w.heap.size, 6, none⟩ = some (.int .i64 left) := by rw [cell_of_cells hg0]; rfl
              have e0 : wc.cell? ⟨w.heap.size + 1, 0, none⟩ = some (.int .i64 kd) := by rw [cell_of_cells hg1]; rfl
              have e1 : wc.cell? ⟨w.heap.size + 1, 1, none⟩ = some (.string p) := by rw [cell_of_cells hg1]; rfl
              have e2 : wc.cell? ⟨w.heap.size + 1, 2, none⟩ = some (.string t) := by rw [cell_of_cells hg1]; rfl
              have i0 : wc.cell? ⟨w.heap.size + 2, 0, none⟩ = some (.int .i64 0) := by rw [cell_of_cells hg2]; rfl
              have i1 : wc.cell? ⟨w.heap.size + 2, 1, none⟩ = some (.slice none 0 0) := by rw [cell_of_cells hg2]; rfl
              have i2 : wc.cell? ⟨w.heap.size + 2, 2, none⟩ = some (.slice none 0 0) := by rw [cell_of_cells hg2]; rfl
              have i3 : wc.cell? ⟨w.heap.size + 2, 3, none⟩ = some (.bool false) := by rw [cell_of_cells hg2]; rfl
              have i4 : wc.cell? ⟨w.heap.size + 2, 4, none⟩ = some (.int .i64 0) := by rw [cell_of_cells hg2]; rfl
              have i5 : wc.cell? ⟨w.heap.size + 2, 5, none⟩ = some (.int .u64 0) := by rw [cell_of_cells hg2]; rfl
              have i6 : wc.cell? ⟨w.heap.size + 2, 6, none⟩ = some (.int .i64 0) := by rw [cell_of_cells hg2]; rfl
              have HG3 := Lib.hid (And.intro hg0 (And.intro hg1 hg2))
              have HB3 := Lib.hid (HB2.out.trans (hbx.mono HB2.out.size))
              clear hg0 hg1 hg2 hbx
              cases hfu : fullB L room (kd, p, t) with
              | true =>
                have HD := Lib.hid (show doF ⟨room, lies, rs, false, at_, keep, left⟩ (kd, p, t) = (⟨room, lies, rs, false, at_, keep, left⟩, 7) by simp [doF, hbad, HL.out, hlk, hfu])
                clear hbad hlk hfu
                go_wp2
                obtain ⟨g1, g2, g3, g4, g5, g6⟩ := dk_seven (w := w) (w1 := wc) (b := w.heap.size + 2) rfl Al cl Ar cr ⟨room, lies, rs, false, at_, keep, left⟩ HG3.out.2.2 rfl
                refine bodyPost_ret (dk_ret Try.results13 _ _ (w.heap.size + 2) Al cl Ar cr ⟨room, lies, rs, false, at_, keep, left⟩ rfl g1) rfl ?_
                rw [HD.out]
                have hbe : Below w.heap.size w _ := ⟨g4.trans HB3.out.os, g5.trans HB3.out.tape, g6.trans HB3.out.output, Nat.le_trans HB3.out.size (Nat.le_of_eq g2.symm), fun k hk => (g3 k (by omega)).trans (HB3.out.block k hk)⟩
                refine ⟨⟨_, rfl, Al, cl, Ar, cr, rfl, ?_, ?_, blk_recs HX.out.1, blk_recs HX.out.2.1⟩, hbe⟩
                · exact (HX.out.1.below (hbe.mono hB)).mono (Nat.le_trans hB hbe.size)
                · exact (HX.out.2.1.below (hbe.mono hB)).mono (Nat.le_trans hB hbe.size)
              | false =>
                go_upto_region 12 with fail
                go_cut [] (fun wx => ∃ A7 c7, wx.heap[w.heap.size]? = some (.cells (dcells Al cl A7 c7 ⟨room, lies, rs ++ [(kd, p, t)], false, at_, keep, left⟩) 35) ∧ wx.heap[w.heap.size + 2]? = some (.cells (dcells none 0 none 0 zeroD) 35) ∧ Efs wx wx.heap.size A7 (rs ++ [(kd, p, t)]) ∧ (∀ ad, A7 = some ad → w.heap.size + 3 ≤ ad.block) ∧ Below w.heap.size w wx)
                case first =>
                  obtain ⟨iE, E0⟩ := ef_elem
                  have HEL := Lib.hid E0
                  clear E0
                  go_wp2_with fail
                  refine wp_region_tree3 (fun W => W.cell? ⟨w.heap.size + 1, 0, none⟩ = some (.int .i64 kd) ∧ W.cell? ⟨w.heap.size + 1, 1, none⟩ = some (.string p) ∧ W.cell? ⟨w.heap.size + 1, 2, none⟩ = some (.string t)) ordD 9 (by kernel_rfl) (by kernel_rfl) (by kernel_rfl) (fun d _ _ _ _ h => by cases d <;> exact h) (by kernel_rfl) ⟨by rw [World.cell?_drew]; exact e0, by rw [World.cell?_drew]; exact e1, by rw [World.cell?_drew]; exact e2⟩ ?_
                  have hbd : Below wc.heap.size wc wc.drew := (Below.refl _ wc).drew
                  generalize wc.drew = V0 at *
                  have hzv := hbd.size
                  have HBV := Lib.hid (HB3.out.trans (hbd.mono HB3.out.size))
                  have HGV := Lib.hid (And.intro ((hbd.block _ (by omega)).trans HG3.out.1) (And.intro ((hbd.block _ (by omega)).trans HG3.out.2.1) ((hbd.block _ (by omega)).trans HG3.out.2.2)))
                  have HS := Lib.hid (fun (W : World) (hb : Below V0.heap.size V0 W) => And.intro (((hbd.trans (hb.mono hzv)).cell (p := ⟨w.heap.size + 1, 0, none⟩) (by show w.heap.size + 1 < _; omega)).trans e0) (And.intro (((hbd.trans (hb.mono hzv)).cell (p := ⟨w.heap.size + 1, 1, none⟩) (by show w.heap.size + 1 < _; omega)).trans e1) (((hbd.trans (hb.mono hzv)).cell (p := ⟨w.heap.size + 1, 2, none⟩) (by show w.heap.size + 1 < _; omega)).trans e2)))
                  have HR2 := Lib.hid (fun (W : World) (hb : Below V0.heap.size V0 W) => ((hbd.trans (hb.mono hzv)).cell (p := ⟨w.heap.size, 2, none⟩) (by show w.heap.size < _; omega)).trans j2)
                  have HE2 := Lib.hid (fun (W : World) (hb : Below V0.heap.size V0 W) => (HX.out.2.1.below ((HB3.out.trans ((hbd.trans (hb.mono hzv)).mono HB3.out.size)).mono hB)).mono (Nat.le_trans (Nat.le_trans hB HBV.out.size) hb.size))
                  have hr0 : Below V0.heap.size V0 V0 := Below.refl _ _
                  clear hbd j0 j1 j2 j3 j4 j5 j6 e0 e1 e2 i0 i1 i2 i3 i4 i5 i6 f0 f2
                  unfold ordD
                  refine trJ_take (.pointer (some ⟨w.heap.size, 2, none⟩)) rfl (Or.inl ⟨by rfl, fun W hW => by go_simp⟩) ?_
                  go_simp
                  refine trJ_take (.agg #[.int .i64 kd, .string p, .string t]) rfl (Or.inl ⟨by rfl, fun W hW => by have q0 := hW.1; have q1 := hW.2.1; have q2 := hW.2.2; clear hW; go_simp⟩) ?_
                  go_simp
                  refine trJ_fork3 rfl (by rfl) rfl (by rfl) rfl (by rfl) (fun K hK => ?_) (fun K hK => ?_) (fun K hK => ?_)
                  · as_aux_lemma =>
                    have HK := Lib.hid hK
                    clear hK
                    go_simp
                    have hb2 : Below V0.heap.size V0 (V0.alloc (.cells #[] 46)) := hr0.alloc hr0.size _
                    have ho3 : (V0.alloc (.cells #[] 46)).ownsRow V0.heap.size 46 3 (.slice (some ⟨V0.heap.size, 0, none⟩) 0 0) ([] : List Ef).length (([] : List Ef).flatMap ecells) := ⟨rfl, .inr ⟨V0.heap.size, 0, #[], rfl, hr0.size, heap_alloc_new V0 _, Nat.le_refl _, Nat.zero_le _, rfl, rfl⟩⟩
                    refine HK.out _ _ (HS.out _ hb2) ?_
                    clear HK K
                    generalize V0.alloc (.cells #[] 46) = y1 at *
                    go_simp
                    refine trJ_fork rfl (by rfl) rfl (by rfl) (fun K hK => ?_) (fun K hK => ?_)
                    · as_aux_lemma =>
                      have HK := Lib.hid hK
                      clear hK
                      have cr6 := HR2.out _ hb2
                      go_simp
                      refine HK.out _ _ (HS.out _ hb2) ?_
                      clear HK K
                      go_simp
                      refine trJ_fork rfl (by rfl) rfl (by rfl) (fun K hK => ?_) (fun K hK => ?_)
                      · as_aux_lemma =>
                        have HK := Lib.hid hK
                        clear hK
                        obtain ⟨v9, y7, HR10, ho11, hg12, _⟩ := app_recs HEL.out ecells_len ecells_one y1 V0.heap.size (.slice (some ⟨V0.heap.size, 0, none⟩) 0 0) [] rs Ar cr _ 30 ho3 (HE2.out _ hb2) (by simp) (by omega) hb2.size
                        have hb8 : Below V0.heap.size V0 y7 := hb2.grown hg12 hb2.size (fun i hi => (ho3.lt i hi).1)
                        obtain ⟨A13, c14, rfl⟩ := own_slice ho11
                        have HHR10 := Lib.hid HR10
                        simp only [List.nil_append] at HHR10
                        clear HR10
                        unfold Oper.wp
                        simp [execOp, resolve, invoke, builtin, Act.eval, HHR10.out, Result.andThen, Oper.upon]
                        refine HK.out _ _ (HS.out _ hb8) ?_
                        clear HK K
                        go_simp
                        have ho15 : y7.ownsRow V0.heap.size 46 3 (.slice A13 rs.length c14) rs.length (rs.flatMap ecells) := ho11
                        refine trJ_call rfl (by rfl) (fun K hK => ?_)
                        have HK := Lib.hid hK
                        clear hK
                        go_simp
                        have hb17 : Below V0.heap.size V0 (y7.alloc (.cells #[.int .i64 kd, .string p, .string t] 46)) := hb8.alloc hb8.size _
                        have hq18 := one_ef y7 (kd, p, t)
                        simp only at hq18
                        have ho19 := ho15.alloc (.cells #[.int .i64 kd, .string p, .string t] 46)
                        have hne20 : some y7.heap.size ≠ (.slice A13 rs.length c14 : Value).ownBlock := fun e => by have := (ho15.lt _ e.symm).2; omega
                        refine HK.out _ _ (HS.out _ hb17) ?_
                        clear HK K
                        generalize y7.alloc (.cells #[.int .i64 kd, .string p, .string t] 46) = y16 at *
                        go_simp
                        refine trJ_call rfl (by rfl) (fun K hK => ?_)
                        have HK := Lib.hid hK
                        clear hK
                        obtain ⟨v23, y21, HR24, ho25, hg26, _⟩ := app_recs HEL.out ecells_len ecells_one y16 V0.heap.size (.slice A13 rs.length c14) rs [(kd, p, t)] (some ⟨y7.heap.size, 0, none⟩) 1 _ 30 ho19 hq18 (by omega) (by simp) hb17.size
                        have hb22 : Below V0.heap.size V0 y21 := hb17.grown hg26 hb17.size (fun i hi => (ho19.lt i hi).1)
                        obtain ⟨A27, c28, rfl⟩ := own_slice ho25
                        have HHR24 := Lib.hid HR24
                        simp only [List.length_append, List.length_cons, List.length_nil, Nat.zero_add] at HHR24
                        clear HR24
                        unfold Oper.wp
                        simp [execOp, resolve, invoke, builtin, Act.eval, HHR24.out, Result.andThen, Oper.upon]
                        refine HK.out _ _ (HS.out _ hb22) ?_
                        clear HK K
                        go_simp
                        refine trJ_take (.pointer (some ⟨w.heap.size, 2, none⟩)) rfl (Or.inl ⟨by rfl, fun W hW => by go_simp⟩) ?_
                        go_simp
                        refine trJ_call rfl (by rfl) (fun K hK => ?_)
                        have HK := Lib.hid hK
                        clear hK
                        have hc9 := HR2.out _ hb22
                        have hd0 := (hb22.block w.heap.size (by omega)).trans HGV.out.1
                        have hd1 := (hb22.block (w.heap.size + 1) (by omega)).trans HGV.out.2.1
                        have hd2 := (hb22.block (w.heap.size + 2) (by omega)).trans HGV.out.2.2
                        have hfz := unfrozen_of_cells hd0 2
                        have HFI := Lib.hid (store_rows (A7 := A27) (c7 := c28) (rs2 := rs ++ [(kd, p, t)]) ho25 hd0 hd1 hd2 (HBV.out.trans (hb22.mono HBV.out.size)) (by omega) (by have h9 := hb22.size; omega))
                        simp only [List.length_append, List.length_cons, List.length_nil, Nat.zero_add] at HFI
                        clear ho25 hq18 hd0 hd1 hd2
                        go_simp
                        refine HK.out _ _ HFI.out.1 ?_
                        clear HK K
                        go_simp
                        refine trJ_done ?_
                        go_wp2
                        go_meet
                        exact ⟨A27, c28, HFI.out.2⟩
                      · as_aux_lemma =>
                        have HK := Lib.hid hK
                        clear hK
                        go_simp
                        have hb30 : Below V0.heap.size V0 (y1.alloc (.cells #[.int .i64 kd, .string p, .string t] 46)) := hb2.alloc hb2.size _
                        have hq31 := one_ef y1 (kd, p, t)
                        simp only at hq31
                        have ho32 := ho3.alloc (.cells #[.int .i64 kd, .string p, .string t] 46)
                        have hne33 : some y1.heap.size ≠ (.slice (some ⟨V0.heap.size, 0, none⟩) 0 0 : Value).ownBlock := fun e => by have := (ho3.lt _ e.symm).2; omega
                        refine HK.out _ _ (HS.out _ hb30) ?_
                        clear HK K
                        generalize y1.alloc (.cells #[.int .i64 kd, .string p, .string t] 46) = y29 at *
                        go_simp
                        refine trJ_call rfl (by rfl) (fun K hK => ?_)
                        have HK := Lib.hid hK
                        clear hK
                        obtain ⟨v36, y34, HR37, ho38, hg39, _⟩ := app_recs HEL.out ecells_len ecells_one y29 V0.heap.size (.slice (some ⟨V0.heap.size, 0, none⟩) 0 0) [] rs Ar cr _ 30 ho32 (HE2.out _ hb30) (by simp) (by omega) hb30.size
                        have hb35 : Below V0.heap.size V0 y34 := hb30.grown hg39 hb30.size (fun i hi => (ho32.lt i hi).1)
                        obtain ⟨A40, c41, rfl⟩ := own_slice ho38
                        have hq42 : Efs y34 y34.heap.size (some ⟨y1.heap.size, 0, none⟩) [(kd, p, t)] := kept_ef hq31 hg39 hne33
                        have HHR37 := Lib.hid HR37
                        simp only [List.nil_append] at HHR37
                        clear HR37
                        unfold Oper.wp
                        simp [execOp, resolve, invoke, builtin, Act.eval, HHR37.out, Result.andThen, Oper.upon]
                        refine HK.out _ _ (HS.out _ hb35) ?_
                        clear HK K
                        go_simp
                        have ho43 : y34.ownsRow V0.heap.size 46 3 (.slice A40 rs.length c41) rs.length (rs.flatMap ecells) := ho38
                        refine trJ_call rfl (by rfl) (fun K hK => ?_)
                        have HK := Lib.hid hK
                        clear hK
                        obtain ⟨v46, y44, HR47, ho48, hg49, _⟩ := app_recs HEL.out ecells_len ecells_one y34 V0.heap.size (.slice A40 rs.length c41) rs [(kd, p, t)] (some ⟨y1.heap.size, 0, none⟩) 1 _ 30 ho43 hq42 (by omega) (by simp) hb35.size
                        have hb45 : Below V0.heap.size V0 y44 := hb35.grown hg49 hb35.size (fun i hi => (ho43.lt i hi).1)
                        obtain ⟨A50, c51, rfl⟩ := own_slice ho48
                        have HHR47 := Lib.hid HR47
                        simp only [List.length_append, List.length_cons, List.length_nil, Nat.zero_add] at HHR47
                        clear HR47
                        unfold Oper.wp
                        simp [execOp, resolve, invoke, builtin, Act.eval, HHR47.out, Result.andThen, Oper.upon]
                        refine HK.out _ _ (HS.out _ hb45) ?_
                        clear HK K
                        go_simp
                        refine trJ_take (.pointer (some ⟨w.heap.size, 2, none⟩)) rfl (Or.inl ⟨by rfl, fun W hW => by go_simp⟩) ?_
                        go_simp
                        refine trJ_call rfl (by rfl) (fun K hK => ?_)
                        have HK := Lib.hid hK
                        clear hK
                        have hc9 := HR2.out _ hb45
                        have hd0 := (hb45.block w.heap.size (by omega)).trans HGV.out.1
                        have hd1 := (hb45.block (w.heap.size + 1) (by omega)).trans HGV.out.2.1
                        have hd2 := (hb45.block (w.heap.size + 2) (by omega)).trans HGV.out.2.2
                        have hfz := unfrozen_of_cells hd0 2
                        have HFI := Lib.hid (store_rows (A7 := A50) (c7 := c51) (rs2 := rs ++ [(kd, p, t)]) ho48 hd0 hd1 hd2 (HBV.out.trans (hb45.mono HBV.out.size)) (by omega) (by have h9 := hb45.size; omega))
                        simp only [List.length_append, List.length_cons, List.length_nil, Nat.zero_add] at HFI
                        clear ho48 hq42 hd0 hd1 hd2
                        go_simp
                        refine HK.out _ _ HFI.out.1 ?_
                        clear HK K
                        go_simp
                        refine trJ_done ?_
                        go_wp2
                        go_meet
                        exact ⟨A50, c51, HFI.out.2⟩
                    · as_aux_lemma =>
                      have HK := Lib.hid hK
                      clear hK
                      go_simp
                      have hb53 : Below V0.heap.size V0 (y1.alloc (.cells #[.int .i64 kd, .string p, .string t] 46)) := hb2.alloc hb2.size _
                      have hq54 := one_ef y1 (kd, p, t)
                      simp only at hq54
                      have ho55 := ho3.alloc (.cells #[.int .i64 kd, .string p, .string t] 46)
                      have hne56 : some y1.heap.size ≠ (.slice (some ⟨V0.heap.size, 0, none⟩) 0 0 : Value).ownBlock := fun e => by have := (ho3.lt _ e.symm).2; omega
                      refine HK.out _ _ (HS.out _ hb53) ?_
                      clear HK K
                      generalize y1.alloc (.cells #[.int .i64 kd, .string p, .string t] 46) = y52 at *
                      go_simp
                      refine trJ_call rfl (by rfl) (fun K hK => ?_)
                      have HK := Lib.hid hK
                      clear hK
                      have cr59 := HR2.out _ hb53
                      go_simp
                      refine HK.out _ _ (HS.out _ hb53) ?_
                      clear HK K
                      go_simp
                      refine trJ_call rfl (by rfl) (fun K hK => ?_)
                      have HK := Lib.hid hK
                      clear hK
                      obtain ⟨v62, y60, HR63, ho64, hg65, _⟩ := app_recs HEL.out ecells_len ecells_one y52 V0.heap.size (.slice (some ⟨V0.heap.size, 0, none⟩) 0 0) [] rs Ar cr _ 30 ho55 (HE2.out _ hb53) (by simp) (by omega) hb53.size
                      have hb61 : Below V0.heap.size V0 y60 := hb53.grown hg65 hb53.size (fun i hi => (ho55.lt i hi).1)
                      obtain ⟨A66, c67, rfl⟩ := own_slice ho64
                      have hq68 : Efs y60 y60.heap.size (some ⟨y1.heap.size, 0, none⟩) [(kd, p, t)] := kept_ef hq54 hg65 hne56
                      have HHR63 := Lib.hid HR63
                      simp only [List.nil_append] at HHR63
                      clear HR63
                      unfold Oper.wp
                      simp [execOp, resolve, invoke, builtin, Act.eval, HHR63.out, Result.andThen, Oper.upon]
                      refine HK.out _ _ (HS.out _ hb61) ?_
                      clear HK K
                      go_simp
                      have ho69 : y60.ownsRow V0.heap.size 46 3 (.slice A66 rs.length c67) rs.length (rs.flatMap ecells) := ho64
                      refine trJ_call rfl (by rfl) (fun K hK => ?_)
                      have HK := Lib.hid hK
                      clear hK
                      obtain ⟨v72, y70, HR73, ho74, hg75, _⟩ := app_recs HEL.out ecells_len ecells_one y60 V0.heap.size (.slice A66 rs.length c67) rs [(kd, p, t)] (some ⟨y1.heap.size, 0, none⟩) 1 _ 30 ho69 hq68 (by omega) (by simp) hb61.size
                      have hb71 : Below V0.heap.size V0 y70 := hb61.grown hg75 hb61.size (fun i hi => (ho69.lt i hi).1)
                      obtain ⟨A76, c77, rfl⟩ := own_slice ho74
                      have HHR73 := Lib.hid HR73
                      simp only [List.length_append, List.length_cons, List.length_nil, Nat.zero_add] at HHR73
                      clear HR73
                      unfold Oper.wp
                      simp [execOp, resolve, invoke, builtin, Act.eval, HHR73.out, Result.andThen, Oper.upon]
                      refine HK.out _ _ (HS.out _ hb71) ?_
                      clear HK K
                      go_simp
                      refine trJ_take (.pointer (some ⟨w.heap.size, 2, none⟩)) rfl (Or.inl ⟨by rfl, fun W hW => by go_simp⟩) ?_
                      go_simp
                      refine trJ_call rfl (by rfl) (fun K hK => ?_)
                      have HK := Lib.hid hK
                      clear hK
                      have hc9 := HR2.out _ hb71
                      have hd0 := (hb71.block w.heap.size (by omega)).trans HGV.out.1
                      have hd1 := (hb71.block (w.heap.size + 1) (by omega)).trans HGV.out.2.1
                      have hd2 := (hb71.block (w.heap.size + 2) (by omega)).trans HGV.out.2.2
                      have hfz := unfrozen_of_cells hd0 2
                      have HFI := Lib.hid (store_rows (A7 := A76) (c7 := c77) (rs2 := rs ++ [(kd, p, t)]) ho74 hd0 hd1 hd2 (HBV.out.trans (hb71.mono HBV.out.size)) (by omega) (by have h9 := hb71.size; omega))
                      simp only [List.length_append, List.length_cons, List.length_nil, Nat.zero_add] at HFI
                      clear ho74 hq68 hd0 hd1 hd2
                      go_simp
                      refine HK.out _ _ HFI.out.1 ?_
                      clear HK K
                      go_simp
                      refine trJ_done ?_
                      go_wp2
                      go_meet
                      exact ⟨A76, c77, HFI.out.2⟩
                  · as_aux_lemma =>
                    have HK := Lib.hid hK
                    clear hK
                    have cr80 := HR2.out _ hr0
                    go_simp
                    refine HK.out _ _ (HS.out _ hr0) ?_
                    clear HK K
                    go_simp
                    refine trJ_fork rfl (by rfl) rfl (by rfl) (fun K hK => ?_) (fun K hK => ?_)
                    · as_aux_lemma =>
                      have HK := Lib.hid hK
                      clear hK
                      go_simp
                      have hb82 : Below V0.heap.size V0 (V0.alloc (.cells #[] 46)) := hr0.alloc hr0.size _
                      have ho83 : (V0.alloc (.cells #[] 46)).ownsRow V0.heap.size 46 3 (.slice (some ⟨V0.heap.size, 0, none⟩) 0 0) ([] : List Ef).length (([] : List Ef).flatMap ecells) := ⟨rfl, .inr ⟨V0.heap.size, 0, #[], rfl, hr0.size, heap_alloc_new V0 _, Nat.le_refl _, Nat.zero_le _, rfl, rfl⟩⟩
                      refine HK.out _ _ (HS.out _ hb82) ?_
                      clear HK K
                      generalize V0.alloc (.cells #[] 46) = y81 at *
                      go_simp
                      refine trJ_fork rfl (by rfl) rfl (by rfl) (fun K hK => ?_) (fun K hK => ?_)
                      · as_aux_lemma =>
                        have HK := Lib.hid hK
                        clear hK
                        obtain ⟨v86, y84, HR87, ho88, hg89, _⟩ := app_recs HEL.out ecells_len ecells_one y81 V0.heap.size (.slice (some ⟨V0.heap.size, 0, none⟩) 0 0) [] rs Ar cr _ 30 ho83 (HE2.out _ hb82) (by simp) (by omega) hb82.size
                        have hb85 : Below V0.heap.size V0 y84 := hb82.grown hg89 hb82.size (fun i hi => (ho83.lt i hi).1)
                        obtain ⟨A90, c91, rfl⟩ := own_slice ho88
                        have HHR87 := Lib.hid HR87
                        simp only [List.nil_append] at HHR87
                        clear HR87
                        unfold Oper.wp
                        simp [execOp, resolve, invoke, builtin, Act.eval, HHR87.out, Result.andThen, Oper.upon]
                        refine HK.out _ _ (HS.out _ hb85) ?_
                        clear HK K
                        go_simp
                        have ho92 : y84.ownsRow V0.heap.size 46 3 (.slice A90 rs.length c91) rs.length (rs.flatMap ecells) := ho88
                        refine trJ_call rfl (by rfl) (fun K hK => ?_)
                        have HK := Lib.hid hK
                        clear hK
                        go_simp
                        have hb94 : Below V0.heap.size V0 (y84.alloc (.cells #[.int .i64 kd, .string p, .string t] 46)) := hb85.alloc hb85.size _
                        have hq95 := one_ef y84 (kd, p, t)
                        simp only at hq95
                        have ho96 := ho92.alloc (.cells #[.int .i64 kd, .string p, .string t] 46)
                        have hne97 : some y84.heap.size ≠ (.slice A90 rs.length c91 : Value).ownBlock := fun e => by have := (ho92.lt _ e.symm).2; omega
                        refine HK.out _ _ (HS.out _ hb94) ?_
                        clear HK K
                        generalize y84.alloc (.cells #[.int .i64 kd, .string p, .string t] 46) = y93 at *
                        go_simp
                        refine trJ_call rfl (by rfl) (fun K hK => ?_)
                        have HK := Lib.hid hK
                        clear hK
                        obtain ⟨v100, y98, HR101, ho102, hg103, _⟩ := app_recs HEL.out ecells_len ecells_one y93 V0.heap.size (.slice A90 rs.length c91) rs [(kd, p, t)] (some ⟨y84.heap.size, 0, none⟩) 1 _ 30 ho96 hq95 (by omega) (by simp) hb94.size
                        have hb99 : Below V0.heap.size V0 y98 := hb94.grown hg103 hb94.size (fun i hi => (ho96.lt i hi).1)
                        obtain ⟨A104, c105, rfl⟩ := own_slice ho102
                        have HHR101 := Lib.hid HR101
                        simp only [List.length_append, List.length_cons, List.length_nil, Nat.zero_add] at HHR101
                        clear HR101
                        unfold Oper.wp
                        simp [execOp, resolve, invoke, builtin, Act.eval, HHR101.out, Result.andThen, Oper.upon]
                        refine HK.out _ _ (HS.out _ hb99) ?_
                        clear HK K
                        go_simp
                        refine trJ_take (.pointer (some ⟨w.heap.size, 2, none⟩)) rfl (Or.inl ⟨by rfl, fun W hW => by go_simp⟩) ?_
                        go_simp
                        refine trJ_call rfl (by rfl) (fun K hK => ?_)
                        have HK := Lib.hid hK
                        clear hK
                        have hc9 := HR2.out _ hb99
                        have hd0 := (hb99.block w.heap.size (by omega)).trans HGV.out.1
                        have hd1 := (hb99.block (w.heap.size + 1) (by omega)).trans HGV.out.2.1
                        have hd2 := (hb99.block (w.heap.size + 2) (by omega)).trans HGV.out.2.2
                        have hfz := unfrozen_of_cells hd0 2
                        have HFI := Lib.hid (store_rows (A7 := A104) (c7 := c105) (rs2 := rs ++ [(kd, p, t)]) ho102 hd0 hd1 hd2 (HBV.out.trans (hb99.mono HBV.out.size)) (by omega) (by have h9 := hb99.size; omega))
                        simp only [List.length_append, List.length_cons, List.length_nil, Nat.zero_add] at HFI
                        clear ho102 hq95 hd0 hd1 hd2
                        go_simp
                        refine HK.out _ _ HFI.out.1 ?_
                        clear HK K
                        go_simp
                        refine trJ_done ?_
                        go_wp2
                        go_meet
                        exact ⟨A104, c105, HFI.out.2⟩
                      · as_aux_lemma =>
                        have HK := Lib.hid hK
                        clear hK
                        go_simp
                        have hb107 : Below V0.heap.size V0 (y81.alloc (.cells #[.int .i64 kd, .string p, .string t] 46)) := hb82.alloc hb82.size _
                        have hq108 := one_ef y81 (kd, p, t)
                        simp only at hq108
                        have ho109 := ho83.alloc (.cells #[.int .i64 kd, .string p, .string t] 46)
                        have hne110 : some y81.heap.size ≠ (.slice (some ⟨V0.heap.size, 0, none⟩) 0 0 : Value).ownBlock := fun e => by have := (ho83.lt _ e.symm).2; omega
                        refine HK.out _ _ (HS.out _ hb107) ?_
                        clear HK K
                        generalize y81.alloc (.cells #[.int .i64 kd, .string p, .string t] 46) = y106 at *
                        go_simp
                        refine trJ_call rfl (by rfl) (fun K hK => ?_)
                        have HK := Lib.hid hK
                        clear hK
                        obtain ⟨v113, y111, HR114, ho115, hg116, _⟩ := app_recs HEL.out ecells_len ecells_one y106 V0.heap.size (.slice (some ⟨V0.heap.size, 0, none⟩) 0 0) [] rs Ar cr _ 30 ho109 (HE2.out _ hb107) (by simp) (by omega) hb107.size
                        have hb112 : Below V0.heap.size V0 y111 := hb107.grown hg116 hb107.size (fun i hi => (ho109.lt i hi).1)
                        obtain ⟨A117, c118, rfl⟩ := own_slice ho115
                        have hq119 : Efs y111 y111.heap.size (some ⟨y81.heap.size, 0, none⟩) [(kd, p, t)] := kept_ef hq108 hg116 hne110
                        have HHR114 := Lib.hid HR114
                        simp only [List.nil_append] at HHR114
                        clear HR114
                        unfold Oper.wp
                        simp [execOp, resolve, invoke, builtin, Act.eval, HHR114.out, Result.andThen, Oper.upon]
                        refine HK.out _ _ (HS.out _ hb112) ?_
                        clear HK K
                        go_simp
                        have ho120 : y111.ownsRow V0.heap.size 46 3 (.slice A117 rs.length c118) rs.length (rs.flatMap ecells) := ho115
                        refine trJ_call rfl (by rfl) (fun K hK => ?_)
                        have HK := Lib.hid hK
                        clear hK
                        obtain ⟨v123, y121, HR124, ho125, hg126, _⟩ := app_recs HEL.out ecells_len ecells_one y111 V0.heap.size (.slice A117 rs.length c118) rs [(kd, p, t)] (some ⟨y81.heap.size, 0, none⟩) 1 _ 30 ho120 hq119 (by omega) (by simp) hb112.size
                        have hb122 : Below V0.heap.size V0 y121 := hb112.grown hg126 hb112.size (fun i hi => (ho120.lt i hi).1)
                        obtain ⟨A127, c128, rfl⟩ := own_slice ho125
                        have HHR124 := Lib.hid HR124
                        simp only [List.length_append, List.length_cons, List.length_nil, Nat.zero_add] at HHR124
                        clear HR124
                        unfold Oper.wp
                        simp [execOp, resolve, invoke, builtin, Act.eval, HHR124.out, Result.andThen, Oper.upon]
                        refine HK.out _ _ (HS.out _ hb122) ?_
                        clear HK K
                        go_simp
                        refine trJ_take (.pointer (some ⟨w.heap.size, 2, none⟩)) rfl (Or.inl ⟨by rfl, fun W hW => by go_simp⟩) ?_
                        go_simp
                        refine trJ_call rfl (by rfl) (fun K hK => ?_)
                        have HK := Lib.hid hK
                        clear hK
                        have hc9 := HR2.out _ hb122
                        have hd0 := (hb122.block w.heap.size (by omega)).trans HGV.out.1
                        have hd1 := (hb122.block (w.heap.size + 1) (by omega)).trans HGV.out.2.1
                        have hd2 := (hb122.block (w.heap.size + 2) (by omega)).trans HGV.out.2.2
                        have hfz := unfrozen_of_cells hd0 2
                        have HFI := Lib.hid (store_rows (A7 := A127) (c7 := c128) (rs2 := rs ++ [(kd, p, t)]) ho125 hd0 hd1 hd2 (HBV.out.trans (hb122.mono HBV.out.size)) (by omega) (by have h9 := hb122.size; omega))
                        simp only [List.length_append, List.length_cons, List.length_nil, Nat.zero_add] at HFI
                        clear ho125 hq119 hd0 hd1 hd2
                        go_simp
                        refine HK.out _ _ HFI.out.1 ?_
                        clear HK K
                        go_simp
                        refine trJ_done ?_
                        go_wp2
                        go_meet
                        exact ⟨A127, c128, HFI.out.2⟩
                    · as_aux_lemma =>
                      have HK := Lib.hid hK
                      clear hK
                      go_simp
                      have hb130 : Below V0.heap.size V0 (V0.alloc (.cells #[.int .i64 kd, .string p, .string t] 46)) := hr0.alloc hr0.size _
                      have hq131 := one_ef V0 (kd, p, t)
                      simp only at hq131
                      refine HK.out _ _ (HS.out _ hb130) ?_
                      clear HK K
                      generalize V0.alloc (.cells #[.int .i64 kd, .string p, .string t] 46) = y129 at *
                      go_simp
                      refine trJ_call rfl (by rfl) (fun K hK => ?_)
                      have HK := Lib.hid hK
                      clear hK
                      go_simp
                      have hb133 : Below V0.heap.size V0 (y129.alloc (.cells #[] 46)) := hb130.alloc hb130.size _
                      have ho134 : (y129.alloc (.cells #[] 46)).ownsRow V0.heap.size 46 3 (.slice (some ⟨y129.heap.size, 0, none⟩) 0 0) ([] : List Ef).length (([] : List Ef).flatMap ecells) := ⟨rfl, .inr ⟨y129.heap.size, 0, #[], rfl, hb130.size, heap_alloc_new y129 _, Nat.le_refl _, Nat.zero_le _, rfl, rfl⟩⟩
                      have hne136 : some V0.heap.size ≠ (Value.slice (some ⟨y129.heap.size, 0, none⟩) 0 0).ownBlock := fun e => by obtain ⟨ad, e2, hlt, _⟩ := hq131 0 (by simp); injection e2 with e2; subst e2; injection e with e; exact absurd e (Nat.ne_of_lt hlt)
                      have hq135 : Efs (y129.alloc (.cells #[] 46)) (y129.alloc (.cells #[] 46)).heap.size (some ⟨V0.heap.size, 0, none⟩) [(kd, p, t)] := (hq131.below ((Below.refl _ y129).alloc (Nat.le_refl _) (.cells #[] 46))).mono (by simp)
                      refine HK.out _ _ (HS.out _ hb133) ?_
                      clear HK K
                      generalize y129.alloc (.cells #[] 46) = y132 at *
                      go_simp
                      refine trJ_call rfl (by rfl) (fun K hK => ?_)
                      have HK := Lib.hid hK
                      clear hK
                      obtain ⟨v139, y137, HR140, ho141, hg142, _⟩ := app_recs HEL.out ecells_len ecells_one y132 V0.heap.size (.slice (some ⟨y129.heap.size, 0, none⟩) 0 0) [] rs Ar cr _ 30 ho134 (HE2.out _ hb133) (by simp) (by omega) hb133.size
                      have hb138 : Below V0.heap.size V0 y137 := hb133.grown hg142 hb133.size (fun i hi => (ho134.lt i hi).1)
                      obtain ⟨A143, c144, rfl⟩ := own_slice ho141
                      have hq145 : Efs y137 y137.heap.size (some ⟨V0.heap.size, 0, none⟩) [(kd, p, t)] := kept_ef hq135 hg142 hne136
                      have HHR140 := Lib.hid HR140
                      simp only [List.nil_append] at HHR140
                      clear HR140
                      unfold Oper.wp
                      simp [execOp, resolve, invoke, builtin, Act.eval, HHR140.out, Result.andThen, Oper.upon]
                      refine HK.out _ _ (HS.out _ hb138) ?_
                      clear HK K
                      go_simp
                      have ho146 : y137.ownsRow V0.heap.size 46 3 (.slice A143 rs.length c144) rs.length (rs.flatMap ecells) := ho141
                      refine trJ_call rfl (by rfl) (fun K hK => ?_)
                      have HK := Lib.hid hK
                      clear hK
                      obtain ⟨v149, y147, HR150, ho151, hg152, _⟩ := app_recs HEL.out ecells_len ecells_one y137 V0.heap.size (.slice A143 rs.length c144) rs [(kd, p, t)] (some ⟨V0.heap.size, 0, none⟩) 1 _ 30 ho146 hq145 (by omega) (by simp) hb138.size
                      have hb148 : Below V0.heap.size V0 y147 := hb138.grown hg152 hb138.size (fun i hi => (ho146.lt i hi).1)
                      obtain ⟨A153, c154, rfl⟩ := own_slice ho151
                      have HHR150 := Lib.hid HR150
                      simp only [List.length_append, List.length_cons, List.length_nil, Nat.zero_add] at HHR150
                      clear HR150
                      unfold Oper.wp
                      simp [execOp, resolve, invoke, builtin, Act.eval, HHR150.out, Result.andThen, Oper.upon]
                      refine HK.out _ _ (HS.out _ hb148) ?_
                      clear HK K
                      go_simp
                      refine trJ_take (.pointer (some ⟨w.heap.size, 2, none⟩)) rfl (Or.inl ⟨by rfl, fun W hW => by go_simp⟩) ?_
                      go_simp
                      refine trJ_call rfl (by rfl) (fun K hK => ?_)
                      have HK := Lib.hid hK
                      clear hK
                      have hc9 := HR2.out _ hb148
                      have hd0 := (hb148.block w.heap.size (by omega)).trans HGV.out.1
                      have hd1 := (hb148.block (w.heap.size + 1) (by omega)).trans HGV.out.2.1
                      have hd2 := (hb148.block (w.heap.size + 2) (by omega)).trans HGV.out.2.2
                      have hfz := unfrozen_of_cells hd0 2
                      have HFI := Lib.hid (store_rows (A7 := A153) (c7 := c154) (rs2 := rs ++ [(kd, p, t)]) ho151 hd0 hd1 hd2 (HBV.out.trans (hb148.mono HBV.out.size)) (by omega) (by have h9 := hb148.size; omega))
                      simp only [List.length_append, List.length_cons, List.length_nil, Nat.zero_add] at HFI
                      clear ho151 hq145 hd0 hd1 hd2
                      go_simp
                      refine HK.out _ _ HFI.out.1 ?_
                      clear HK K
                      go_simp
                      refine trJ_done ?_
                      go_wp2
                      go_meet
                      exact ⟨A153, c154, HFI.out.2⟩
                  · as_aux_lemma =>
                    have HK := Lib.hid hK
                    clear hK
                    go_simp
                    have hb156 : Below V0.heap.size V0 (V0.alloc (.cells #[.int .i64 kd, .string p, .string t] 46)) := hr0.alloc hr0.size _
                    have hq157 := one_ef V0 (kd, p, t)
                    simp only at hq157
                    refine HK.out _ _ (HS.out _ hb156) ?_
                    clear HK K
                    generalize V0.alloc (.cells #[.int .i64 kd, .string p, .string t] 46) = y155 at *
                    go_simp
                    refine trJ_fork rfl (by rfl) rfl (by rfl) (fun K hK => ?_) (fun K hK => ?_)
                    · as_aux_lemma =>
                      have HK := Lib.hid hK
                      clear hK
                      go_simp
                      have hb159 : Below V0.heap.size V0 (y155.alloc (.cells #[] 46)) := hb156.alloc hb156.size _
                      have ho160 : (y155.alloc (.cells #[] 46)).ownsRow V0.heap.size 46 3 (.slice (some ⟨y155.heap.size, 0, none⟩) 0 0) ([] : List Ef).length (([] : List Ef).flatMap ecells) := ⟨rfl, .inr ⟨y155.heap.size, 0, #[], rfl, hb156.size, heap_alloc_new y155 _, Nat.le_refl _, Nat.zero_le _, rfl, rfl⟩⟩
                      have hne162 : some V0.heap.size ≠ (Value.slice (some ⟨y155.heap.size, 0, none⟩) 0 0).ownBlock := fun e => by obtain ⟨ad, e2, hlt, _⟩ := hq157 0 (by simp); injection e2 with e2; subst e2; injection e with e; exact absurd e (Nat.ne_of_lt hlt)
                      have hq161 : Efs (y155.alloc (.cells #[] 46)) (y155.alloc (.cells #[] 46)).heap.size (some ⟨V0.heap.size, 0, none⟩) [(kd, p, t)] := (hq157.below ((Below.refl _ y155).alloc (Nat.le_refl _) (.cells #[] 46))).mono (by simp)
                      refine HK.out _ _ (HS.out _ hb159) ?_
                      clear HK K
                      generalize y155.alloc (.cells #[] 46) = y158 at *
                      go_simp
                      refine trJ_call rfl (by rfl) (fun K hK => ?_)
                      have HK := Lib.hid hK
                      clear hK
                      have cr165 := HR2.out _ hb159
                      go_simp
                      refine HK.out _ _ (HS.out _ hb159) ?_
                      clear HK K
                      go_simp
                      refine trJ_call rfl (by rfl) (fun K hK => ?_)
                      have HK := Lib.hid hK
                      clear hK
                      obtain ⟨v168, y166, HR169, ho170, hg171, _⟩ := app_recs HEL.out ecells_len ecells_one y158 V0.heap.size (.slice (some ⟨y155.heap.size, 0, none⟩) 0 0) [] rs Ar cr _ 30 ho160 (HE2.out _ hb159) (by simp) (by omega) hb159.size
                      have hb167 : Below V0.heap.size V0 y166 := hb159.grown hg171 hb159.size (fun i hi => (ho160.lt i hi).1)
                      obtain ⟨A172, c173, rfl⟩ := own_slice ho170
                      have hq174 : Efs y166 y166.heap.size (some ⟨V0.heap.size, 0, none⟩) [(kd, p, t)] := kept_ef hq161 hg171 hne162
                      have HHR169 := Lib.hid HR169
                      simp only [List.nil_append] at HHR169
                      clear HR169
                      unfold Oper.wp
                      simp [execOp, resolve, invoke, builtin, Act.eval, HHR169.out, Result.andThen, Oper.upon]
                      refine HK.out _ _ (HS.out _ hb167) ?_
                      clear HK K
                      go_simp
                      have ho175 : y166.ownsRow V0.heap.size 46 3 (.slice A172 rs.length c173) rs.length (rs.flatMap ecells) := ho170
                      refine trJ_call rfl (by rfl) (fun K hK => ?_)
                      have HK := Lib.hid hK
                      clear hK
                      obtain ⟨v178, y176, HR179, ho180, hg181, _⟩ := app_recs HEL.out ecells_len ecells_one y166 V0.heap.size (.slice A172 rs.length c173) rs [(kd, p, t)] (some ⟨V0.heap.size, 0, none⟩) 1 _ 30 ho175 hq174 (by omega) (by simp) hb167.size
                      have hb177 : Below V0.heap.size V0 y176 := hb167.grown hg181 hb167.size (fun i hi => (ho175.lt i hi).1)
                      obtain ⟨A182, c183, rfl⟩ := own_slice ho180
                      have HHR179 := Lib.hid HR179
                      simp only [List.length_append, List.length_cons, List.length_nil, Nat.zero_add] at HHR179
                      clear HR179
                      unfold Oper.wp
                      simp [execOp, resolve, invoke, builtin, Act.eval, HHR179.out, Result.andThen, Oper.upon]
                      refine HK.out _ _ (HS.out _ hb177) ?_
                      clear HK K
                      go_simp
                      refine trJ_take (.pointer (some ⟨w.heap.size, 2, none⟩)) rfl (Or.inl ⟨by rfl, fun W hW => by go_simp⟩) ?_
                      go_simp
                      refine trJ_call rfl (by rfl) (fun K hK => ?_)
                      have HK := Lib.hid hK
                      clear hK
                      have hc9 := HR2.out _ hb177
                      have hd0 := (hb177.block w.heap.size (by omega)).trans HGV.out.1
                      have hd1 := (hb177.block (w.heap.size + 1) (by omega)).trans HGV.out.2.1
                      have hd2 := (hb177.block (w.heap.size + 2) (by omega)).trans HGV.out.2.2
                      have hfz := unfrozen_of_cells hd0 2
                      have HFI := Lib.hid (store_rows (A7 := A182) (c7 := c183) (rs2 := rs ++ [(kd, p, t)]) ho180 hd0 hd1 hd2 (HBV.out.trans (hb177.mono HBV.out.size)) (by omega) (by have h9 := hb177.size; omega))
                      simp only [List.length_append, List.length_cons, List.length_nil, Nat.zero_add] at HFI
                      clear ho180 hq174 hd0 hd1 hd2
                      go_simp
                      refine HK.out _ _ HFI.out.1 ?_
                      clear HK K
                      go_simp
                      refine trJ_done ?_
                      go_wp2
                      go_meet
                      exact ⟨A182, c183, HFI.out.2⟩
                    · as_aux_lemma =>
                      have HK := Lib.hid hK
                      clear hK
                      have cr186 := HR2.out _ hb156
                      go_simp
                      refine HK.out _ _ (HS.out _ hb156) ?_
                      clear HK K
                      go_simp
                      refine trJ_call rfl (by rfl) (fun K hK => ?_)
                      have HK := Lib.hid hK
                      clear hK
                      go_simp
                      have hb188 : Below V0.heap.size V0 (y155.alloc (.cells #[] 46)) := hb156.alloc hb156.size _
                      have ho189 : (y155.alloc (.cells #[] 46)).ownsRow V0.heap.size 46 3 (.slice (some ⟨y155.heap.size, 0, none⟩) 0 0) ([] : List Ef).length (([] : List Ef).flatMap ecells) := ⟨rfl, .inr ⟨y155.heap.size, 0, #[], rfl, hb156.size, heap_alloc_new y155 _, Nat.le_refl _, Nat.zero_le _, rfl, rfl⟩⟩
                      have hne191 : some V0.heap.size ≠ (Value.slice (some ⟨y155.heap.size, 0, none⟩) 0 0).ownBlock := fun e => by obtain ⟨ad, e2, hlt, _⟩ := hq157 0 (by simp); injection e2 with e2; subst e2; injection e with e; exact absurd e (Nat.ne_of_lt hlt)
                      have hq190 : Efs (y155.alloc (.cells #[] 46)) (y155.alloc (.cells #[] 46)).heap.size (some ⟨V0.heap.size, 0, none⟩) [(kd, p, t)] := (hq157.below ((Below.refl _ y155).alloc (Nat.le_refl _) (.cells #[] 46))).mono (by simp)
                      refine HK.out _ _ (HS.out _ hb188) ?_
                      clear HK K
                      generalize y155.alloc (.cells #[] 46) = y187 at *
                      go_simp
                      refine trJ_call rfl (by rfl) (fun K hK => ?_)
                      have HK := Lib.hid hK
                      clear hK
                      obtain ⟨v194, y192, HR195, ho196, hg197, _⟩ := app_recs HEL.out ecells_len ecells_one y187 V0.heap.size (.slice (some ⟨y155.heap.size, 0, none⟩) 0 0) [] rs Ar cr _ 30 ho189 (HE2.out _ hb188) (by simp) (by omega) hb188.size
                      have hb193 : Below V0.heap.size V0 y192 := hb188.grown hg197 hb188.size (fun i hi => (ho189.lt i hi).1)
                      obtain ⟨A198, c199, rfl⟩ := own_slice ho196
                      have hq200 : Efs y192 y192.heap.size (some ⟨V0.heap.size, 0, none⟩) [(kd, p, t)] := kept_ef hq190 hg197 hne191
                      have HHR195 := Lib.hid HR195
                      simp only [List.nil_append] at HHR195
                      clear HR195
                      unfold Oper.wp
                      simp [execOp, resolve, invoke, builtin, Act.eval, HHR195.out, Result.andThen, Oper.upon]
                      refine HK.out _ _ (HS.out _ hb193) ?_
                      clear HK K
                      go_simp
                      have ho201 : y192.ownsRow V0.heap.size 46 3 (.slice A198 rs.length c199) rs.length (rs.flatMap ecells) := ho196
                      refine trJ_call rfl (by rfl) (fun K hK => ?_)
                      have HK := Lib.hid hK
                      clear hK
                      obtain ⟨v204, y202, HR205, ho206, hg207, _⟩ := app_recs HEL.out ecells_len ecells_one y192 V0.heap.size (.slice A198 rs.length c199) rs [(kd, p, t)] (some ⟨V0.heap.size, 0, none⟩) 1 _ 30 ho201 hq200 (by omega) (by simp) hb193.size
                      have hb203 : Below V0.heap.size V0 y202 := hb193.grown hg207 hb193.size (fun i hi => (ho201.lt i hi).1)
                      obtain ⟨A208, c209, rfl⟩ := own_slice ho206
                      have HHR205 := Lib.hid HR205
                      simp only [List.length_append, List.length_cons, List.length_nil, Nat.zero_add] at HHR205
                      clear HR205
                      unfold Oper.wp
                      simp [execOp, resolve, invoke, builtin, Act.eval, HHR205.out, Result.andThen, Oper.upon]
                      refine HK.out _ _ (HS.out _ hb203) ?_
                      clear HK K
                      go_simp
                      refine trJ_take (.pointer (some ⟨w.heap.size, 2, none⟩)) rfl (Or.inl ⟨by rfl, fun W hW => by go_simp⟩) ?_
                      go_simp
                      refine trJ_call rfl (by rfl) (fun K hK => ?_)
                      have HK := Lib.hid hK
                      clear hK
                      have hc9 := HR2.out _ hb203
                      have hd0 := (hb203.block w.heap.size (by omega)).trans HGV.out.1
                      have hd1 := (hb203.block (w.heap.size + 1) (by omega)).trans HGV.out.2.1
                      have hd2 := (hb203.block (w.heap.size + 2) (by omega)).trans HGV.out.2.2
                      have hfz := unfrozen_of_cells hd0 2
                      have HFI := Lib.hid (store_rows (A7 := A208) (c7 := c209) (rs2 := rs ++ [(kd, p, t)]) ho206 hd0 hd1 hd2 (HBV.out.trans (hb203.mono HBV.out.size)) (by omega) (by have h9 := hb203.size; omega))
                      simp only [List.length_append, List.length_cons, List.length_nil, Nat.zero_add] at HFI
                      clear ho206 hq200 hd0 hd1 hd2
                      go_simp
                      refine HK.out _ _ HFI.out.1 ?_
                      clear HK K
                      go_simp
                      refine trJ_done ?_
                      go_wp2
                      go_meet
                      exact ⟨A208, c209, HFI.out.2⟩
                case rest =>
                  obtain ⟨A7, c7, k0, k2, hef, hnew, hbw⟩ := hcut
                  have hzw : w.heap.size + 2 < wc.heap.size := (Array.getElem?_eq_some_iff.1 k2).1
                  have hC5 := call_any wc wc.heap.size (.agg (dcells Al cl A7 c7 ⟨room, lies, rs ++ [(kd, p, t)], false, at_, keep, left⟩)) ⟨room, lies, rs ++ [(kd, p, t)], false, at_, keep, left⟩ ⟨Al, cl, A7, c7, rfl, (HX.out.1.below (hbw.mono hB)).mono (Nat.le_trans hB hbw.size), hef⟩ (Nat.le_refl _) h0 hmx (by simp; omega) hk0 hk1
                  have HIN := Lib.hid (show HasG (fun k => k < B ∨ w.heap.size + 3 ≤ k) (.agg (dcells Al cl A7 c7 ⟨room, lies, rs ++ [(kd, p, t)], false, at_, keep, left⟩)) ⟨room, lies, rs ++ [(kd, p, t)], false, at_, keep, left⟩ from ⟨Al, cl, A7, c7, rfl, fun hn ad ha => blk_recs (N := w.heap.size + 3) HX.out.1 hn ad ha, fun _ ad ha => .inr (hnew ad ha)⟩)
                  have HDD := Lib.hid (show doF ⟨room, lies, rs, false, at_, keep, left⟩ (kd, p, t) = ((callF ⟨room, lies, rs ++ [(kd, p, t)], false, at_, keep, left⟩).1, if (callF ⟨room, lies, rs ++ [(kd, p, t)], false, at_, keep, left⟩).2 = true then 8 else 0) by simp [doF, hbad, HL.out, hlk, hfu])
                  generalize callF ⟨room, lies, rs ++ [(kd, p, t)], false, at_, keep, left⟩ = R at *
                  obtain ⟨⟨room2, lies2, rs2, down2, at2, keep2, left2⟩, fl⟩ := R
                  have HC5 := Lib.hid hC5
                  have HB5 := Lib.hid hbw
                  have HZ5 := Lib.hid k2
                  have hlen7 : (rs ++ [(kd, p, t)]).length = rs.length + 1 := by simp
                  have HL7 := Lib.hid hlen7
                  clear hC5 hbw hef hnew hbad hlk hfu j0 j1 j2 j3 j4 j5 j6 e0 e1 e2 i0 i1 i2 i3 i4 i5 i6 f0 f2
                  have j0 : wc.cell? ⟨w.heap.size, 0, none⟩ = some (.int .i64 room) := by rw [cell_of_cells k0]; rfl
                  have j1 : wc.cell? ⟨w.heap.size, 1, none⟩ = some (.slice Al lies.length cl) := by rw [cell_of_cells k0]; rfl
                  have j2 : wc.cell? ⟨w.heap.size, 2, none⟩ = some (.slice A7 (rs ++ [(kd, p, t)]).length c7) := by rw [cell_of_cells k0]; rfl
                  have j3 : wc.cell? ⟨w.heap.size, 3, none⟩ = some (.bool false) := by rw [cell_of_cells k0]; rfl
                  have j4 : wc.cell? ⟨w.heap.size, 4, none⟩ = some (.int .i64 at_) := by rw [cell_of_cells k0]; rfl
                  have j5 : wc.cell? ⟨w.heap.size, 5, none⟩ = some (.int .u64 keep) := by rw [cell_of_cells k0]; rfl
                  have j6 : wc.cell? ⟨w.heap.size, 6, none⟩ = some (.int .i64 left) := by rw [cell_of_cells k0]; rfl
                  rw [hlen7] at j2
                  rw [show dcells Al cl A7 c7 ⟨room, lies, rs ++ [(kd, p, t)], false, at_, keep, left⟩ = #[.int .i64 room, .slice Al lies.length cl, .slice A7 (rs.length + 1) c7, .bool false, .int .i64 at_, .int .u64 keep, .int .i64 left] by simp [dcells]] at HC5 HIN
                  clear k0 k2 hlen7
                  go_wp2_with fail
                  refine HC5.out.mono ?_
                  rintro r w4 ⟨⟨v4, rfl, ⟨B1, b1, B2, b2, rfl, hf4, he4, _, _⟩, hin4⟩, hb4⟩
                  simp only at hf4 he4
                  have hz4 := hb4.size
                  obtain ⟨hG1, hG2⟩ := hasG_at (hin4 _ HIN.out (fun k hk => .inr (by omega)))
                  simp only at hG1 hG2
                  have hgz : (w4.alloc (.cells #[.int .i64 room2, .slice B1 lies2.length b1, .slice B2 rs2.length b2, .bool down2, .int .i64 at2, .int .u64 keep2, .int .i64 left2] 35)).heap[w.heap.size + 2]? = some (.cells (dcells none 0 none 0 zeroD) 35) := (Below.heap_alloc _ _ _ (by omega)).trans ((hb4.block _ (by omega)).trans HZ5.out)
                  have f9 := fun i => unfrozen_of_cells hgz i
                  have i0 : (w4.alloc (.cells #[.int .i64 room2, .slice B1 lies2.length b1, .slice B2 rs2.length b2, .bool down2, .int .i64 at2, .int .u64 keep2, .int .i64 left2] 35)).cell? ⟨w.heap.size + 2, 0, none⟩ = some (.int .i64 0) := by rw [cell_of_cells hgz]; rfl
                  have i1 : (w4.alloc (.cells #[.int .i64 room2, .slice B1 lies2.length b1, .slice B2 rs2.length b2, .bool down2, .int .i64 at2, .int .u64 keep2, .int .i64 left2] 35)).cell? ⟨w.heap.size + 2, 1, none⟩ = some (.slice none 0 0) := by rw [cell_of_cells hgz]; rfl
                  have i2 : (w4.alloc (.cells #[.int .i64 room2, .slice B1 lies2.length b1, .slice B2 rs2.length b2, .bool down2, .int .i64 at2, .int .u64 keep2, .int .i64 left2] 35)).cell? ⟨w.heap.size + 2, 2, none⟩ = some (.slice none 0 0) := by rw [cell_of_cells hgz]; rfl
                  have i3 : (w4.alloc (.cells #[.int .i64 room2, .slice B1 lies2.length b1, .slice B2 rs2.length b2, .bool down2, .int .i64 at2, .int .u64 keep2, .int .i64 left2] 35)).cell? ⟨w.heap.size + 2, 3, none⟩ = some (.bool false) := by rw [cell_of_cells hgz]; rfl
                  have i4 : (w4.alloc (.cells #[.int .i64 room2, .slice B1 lies2.length b1, .slice B2 rs2.length b2, .bool down2, .int .i64 at2, .int .u64 keep2, .int .i64 left2] 35)).cell? ⟨w.heap.size + 2, 4, none⟩ = some (.int .i64 0) := by rw [cell_of_cells hgz]; rfl
                  have i5 : (w4.alloc (.cells #[.int .i64 room2, .slice B1 lies2.length b1, .slice B2 rs2.length b2, .bool down2, .int .i64 at2, .int .u64 keep2, .int .i64 left2] 35)).cell? ⟨w.heap.size + 2, 5, none⟩ = some (.int .u64 0) := by rw [cell_of_cells hgz]; rfl
                  have i6 : (w4.alloc (.cells #[.int .i64 room2, .slice B1 lies2.length b1, .slice B2 rs2.length b2, .bool down2, .int .i64 at2, .int .u64 keep2, .int .i64 left2] 35)).cell? ⟨w.heap.size + 2, 6, none⟩ = some (.int .i64 0) := by rw [cell_of_cells hgz]; rfl
                  have HB6 := Lib.hid (show Below w.heap.size w (w4.alloc (.cells #[.int .i64 room2, .slice B1 lies2.length b1, .slice B2 rs2.length b2, .bool down2, .int .i64 at2, .int .u64 keep2, .int .i64 left2] 35)) from (HB5.out.trans (hb4.mono HB5.out.size)).alloc (Nat.le_trans HB5.out.size hz4) _)
                  have HE := Lib.hid (And.intro hf4 (And.intro he4 (And.intro hG1 (And.intro hG2 hgz))))
                  clear hf4 he4 hG1 hG2 hgz hin4 hb4 HC5
                  cases fl with
                  | true =>
                    go_wp2
                    obtain ⟨g1, g2, g3, g4, g5, g6⟩ := dk_seven (w := w) (w1 := (w4.alloc (.cells #[.int .i64 room2, .slice B1 lies2.length b1, .slice B2 rs2.length b2, .bool down2, .int .i64 at2, .int .u64 keep2, .int .i64 left2] 35))) (b := w.heap.size + 2) rfl B1 b1 B2 b2 ⟨room2, lies2, rs2, down2, at2, keep2, left2⟩ HE.out.2.2.2.2 rfl
                    refine bodyPost_ret (dk_ret Try.results13 _ _ (w.heap.size + 2) B1 b1 B2 b2 ⟨room2, lies2, rs2, down2, at2, keep2, left2⟩ rfl g1) rfl ?_
                    rw [HDD.out]
                    refine ⟨⟨_, rfl, B1, b1, B2, b2, rfl, ?_, ?_, ?_, ?_⟩, ?_⟩
                    · refine recs_keep (fun k => k = w.heap.size + 2) HE.out.1 (fun hn ad ha e => ?_) (Nat.le_trans (by simp) (Nat.le_of_eq g2.symm)) (fun j hj hn => (g3 j hn).trans (Below.heap_alloc _ _ _ hj))
                      have h9 := HE.out.2.2.1 hn ad ha
                      simp only at h9
                      omega
                    · refine recs_keep (fun k => k = w.heap.size + 2) HE.out.2.1 (fun hn ad ha e => ?_) (Nat.le_trans (by simp) (Nat.le_of_eq g2.symm)) (fun j hj hn => (g3 j hn).trans (Below.heap_alloc _ _ _ hj))
                      have h9 := HE.out.2.2.2.1 hn ad ha
                      simp only at h9
                      omega
                    · exact fun hn ad ha => (HE.out.2.2.1 hn ad ha).imp id (fun h9 => by omega)
                    · exact fun hn ad ha => (HE.out.2.2.2.1 hn ad ha).imp id (fun h9 => by omega)
                    · exact ⟨g4.trans HB6.out.os, g5.trans HB6.out.tape, g6.trans HB6.out.output, Nat.le_trans HB6.out.size (Nat.le_of_eq g2.symm), fun k hk => (g3 k (by omega)).trans (HB6.out.block k hk)⟩
                  | false =>
                    go_wp2
                    obtain ⟨g1, g2, g3, g4, g5, g6⟩ := dk_seven (w := w) (w1 := (w4.alloc (.cells #[.int .i64 room2, .slice B1 lies2.length b1, .slice B2 rs2.length b2, .bool down2, .int .i64 at2, .int .u64 keep2, .int .i64 left2] 35))) (b := w.heap.size + 2) rfl B1 b1 B2 b2 ⟨room2, lies2, rs2, down2, at2, keep2, left2⟩ HE.out.2.2.2.2 rfl
                    refine bodyPost_ret (dk_ret Try.results13 _ _ (w.heap.size + 2) B1 b1 B2 b2 ⟨room2, lies2, rs2, down2, at2, keep2, left2⟩ rfl g1) rfl ?_
                    rw [HDD.out]
                    refine ⟨⟨_, rfl, B1, b1, B2, b2, rfl, ?_, ?_, ?_, ?_⟩, ?_⟩
                    · refine recs_keep (fun k => k = w.heap.size + 2) HE.out.1 (fun hn ad ha e => ?_) (Nat.le_trans (by simp) (Nat.le_of_eq g2.symm)) (fun j hj hn => (g3 j hn).trans (Below.heap_alloc _ _ _ hj))
                      have h9 := HE.out.2.2.1 hn ad ha
                      simp only at h9
                      omega
                    · refine recs_keep (fun k => k = w.heap.size + 2) HE.out.2.1 (fun hn ad ha e => ?_) (Nat.le_trans (by simp) (Nat.le_of_eq g2.symm)) (fun j hj hn => (g3 j hn).trans (Below.heap_alloc _ _ _ hj))
                      have h9 := HE.out.2.2.2.1 hn ad ha
                      simp only at h9
                      omega
                    · exact fun hn ad ha => (HE.out.2.2.1 hn ad ha).imp id (fun h9 => by omega)
                    · exact fun hn ad ha => (HE.out.2.2.2.1 hn ad ha).imp id (fun h9 => by omega)
                    · exact ⟨g4.trans HB6.out.os, g5.trans HB6.out.tape, g6.trans HB6.out.output, Nat.le_trans HB6.out.size (Nat.le_of_eq g2.symm), fun k hk => (g3 k (by omega)).trans (HB6.out.block k hk)⟩
end Go.Proofs.Ytdgfbpkpfmdjjaa.Hk
