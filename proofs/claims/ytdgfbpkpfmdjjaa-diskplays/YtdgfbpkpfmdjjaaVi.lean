/-
  The document's Seen, Arm, Sync (layer 7): and what holds of the blocks of their results.
-/
import Derived.Test.YtdgfbpkpfmdjjaaVg
namespace Go.Proofs.Ytdgfbpkpfmdjjaa.Hk
open Go.RowKit Hr Hw
set_option linter.unusedVariables false

theorem inG_mono {w w1 : World} {v v' : Value} {d d' : Dsk} (h : InG w1 v d v' d') (hs : w.heap.size ≤ w1.heap.size) : InG w v d v' d' := fun G hG hn => h G hG (fun k hk => hn k (Nat.le_trans hs hk))

set_option maxHeartbeats 2000000 in
set_option maxRecDepth 100000 in
theorem seen_g (w : World) (B : Nat) (v : Value) (d : Dsk) (h : DkV w B v d) (hB : B ≤ w.heap.size) (hl : d.lies.length + d.rows.length ≤ 3000) :
    Calls Try.prog 17 #[v] w fun r w' => (∃ A2 c2, r = .returned (.slice A2 (seenF d.lies d.rows).length c2) ∧ Fls w' w'.heap.size A2 (seenF d.lies d.rows) ∧ Blk B w.heap.size A2 (seenF d.lies d.rows) ∧ (∀ G : Nat → Prop, HasG G v d → (∀ k, w.heap.size ≤ k → G k) → BlkG G A2 (seenF d.lies d.rows))) ∧ Below w.heap.size w w' := by
  obtain ⟨Al, cl, Ar, cr, rfl, hf, he⟩ := h
  obtain ⟨room, lies, rs, down, at_, keep, left⟩ := d
  simp only at hf he hl ⊢
  have hbx : Below w.heap.size w (w.alloc (.cells #[.int .i64 room, .slice Al lies.length cl, .slice Ar rs.length cr, .bool down, .int .i64 at_, .int .u64 keep, .int .i64 left] 35)) := (Below.refl _ w).alloc (Nat.le_refl _) _
  have hbk := heap_alloc_new w (.cells #[.int .i64 room, .slice Al lies.length cl, .slice Ar rs.length cr, .bool down, .int .i64 at_, .int .u64 keep, .int .i64 left] 35)
  have hsz : (w.alloc (.cells #[.int .i64 room, .slice Al lies.length cl, .slice Ar rs.length cr, .bool down, .int .i64 at_, .int .u64 keep, .int .i64 left] 35)).heap.size = w.heap.size + 1 := by simp
  have HX := Lib.hid (And.intro (hf.below (hbx.mono hB)) (And.intro (he.below (hbx.mono hB)) (And.intro hbx (And.intro hbk hsz))))
  clear hf he hbx hbk hsz
  go_enter Try.func17, Try.ntmps17
  go_wp2
  generalize w.alloc (.cells #[.int .i64 room, .slice Al lies.length cl, .slice Ar rs.length cr, .bool down, .int .i64 at_, .int .u64 keep, .int .i64 left] 35) = wb at *
  have k2 : wb.cell? ⟨w.heap.size, 2, none⟩ = some (.slice Ar rs.length cr) := by simp [World.cell?, HX.out.2.2.2.1]
  have hzb : w.heap.size < wb.heap.size := by rw [HX.out.2.2.2.2]; omega
  go_loopg [3, 4] rs.length (fun g v i wr => ∃ (j : Nat) (A2 : Option Addr) (c2 : Nat), j ≤ rs.length ∧ g = rs.length - j ∧ i = .int .i64 j ∧ v = .slice A2 (seenF lies (rs.take j)).length c2 ∧ Fls wr wr.heap.size A2 (seenF lies (rs.take j)) ∧ (Blk B w.heap.size A2 (seenF lies (rs.take j)) ∧ ∀ G : Nat → Prop, BlkG G Al lies → (∀ k, w.heap.size ≤ k → G k) → BlkG G A2 (seenF lies (rs.take j))) ∧ Below wb.heap.size wb wr)
  case atStart => exact ⟨0, Al, cl, Nat.zero_le _, rfl, rfl, rfl, HX.out.1.mono (by omega), ⟨blk_recs HX.out.1, fun _ h _ => h⟩, Below.refl _ _⟩
  case round =>
    obtain ⟨j, A2, c2, hj, rfl, rfl, rfl, hfl, hbk, hbl⟩ := hrel
    have kr : wr.cell? ⟨w.heap.size, 2, none⟩ = some (.slice Ar rs.length cr) := (hbl.cell (p := ⟨w.heap.size, 2, none⟩) hzb).trans k2
    by_cases hlt : j < rs.length
    · have h1 : (j : Int) < rs.length := by omega
      have h0 : (0 : Int) ≤ j := by omega
      obtain ⟨ad, rfl, hB1, hc⟩ := (HX.out.2.1.below (hbl.mono (by omega))) j hlt
      have c0 : wr.cell? (ad.add (j * 3)) = some (.int .i64 (rs.getD j default).1) := hc 0 (by omega)
      have c1 : wr.cell? ⟨(ad.add (j * 3)).block, (ad.add (j * 3)).off + 1, none⟩ = some (.string (rs.getD j default).2.1) := hc 1 (by omega)
      have c2' : wr.cell? ⟨(ad.add (j * 3)).block, (ad.add (j * 3)).off + 2, none⟩ = some (.string (rs.getD j default).2.2) := hc 2 (by omega)
      have hsl := seenF_len (rs.take j) lies
      have htl : (rs.take j).length = j := by rw [List.length_take]; omega
      have HC := Lib.hid (done_any wr wr.heap.size A2 c2 (seenF lies (rs.take j)) (rs.getD j default) hfl (Nat.le_refl _) (by omega))
      rw [← seenF_succ hlt] at HC
      have HB := Lib.hid hbl
      have HBK := Lib.hid hbk
      have hzr := hbl.size
      generalize rs.getD j default = x at *
      generalize seenF lies (rs.take j) = sj at *
      clear hc hfl hbl hsl htl hbk
      go_wp2_with fail
      refine HC.out.mono ?_
      rintro r w2 ⟨⟨A3, c3, rfl, hf3, hal⟩, hb3⟩
      have hnewG : ∀ G : Nat → Prop, BlkG G Al lies → (∀ k, w.heap.size ≤ k → G k) → BlkG G A3 (seenF lies (rs.take (j + 1))) := fun G h1 h2 hn ad ha => by
        rcases hal with ⟨e, e'⟩ | h9
        · rw [e'] at hn; rw [e] at ha; exact HBK.out.2 G h1 h2 hn ad ha
        · exact h2 _ (by have := h9 ad ha; omega)
      have HF := Lib.hid (And.intro hf3 (And.intro (And.intro (blk_done HBK.out.1 hal (by omega)) hnewG) (HB.out.trans (hb3.mono hzr))))
      clear hf3 hb3 HC HB hal HBK hnewG
      go_wp2
      go_roundg (rs.length - (j + 1))
      case rel => exact ⟨j + 1, A3, c3, by omega, rfl, by go_num, rfl, HF.out.1, HF.out.2.1, HF.out.2.2⟩
      case measure => omega
    · obtain rfl : j = rs.length := by omega
      rw [List.take_length] at hfl hbk
      rw [List.take_length]
      have HF := Lib.hid (And.intro hfl (And.intro hbk (HX.out.2.2.1.trans (hbl.mono (by omega)))))
      clear hfl hbl hbk
      go_wp2
      go_ret
      exact ⟨⟨A2, c2, rfl, HF.out.1, HF.out.2.1.1, fun G hG hn => HF.out.2.1.2 G (hasG_at (Al := Al) (cl := cl) (Ar := Ar) (cr := cr) (d := ⟨room, lies, rs, down, at_, keep, left⟩) hG).1 hn⟩, HF.out.2.2⟩

set_option maxHeartbeats 2000000 in
set_option maxRecDepth 100000 in
theorem arm_g (w : World) (B : Nat) (v : Value) (d : Dsk) (a k : Int) (h : DkV w B v d) (hB : B ≤ w.heap.size) :
    Calls Try.prog 15 #[v, .agg #[.int .i64 a, .int .u64 k]] w fun r w' => (∃ v', r = .returned v' ∧ DkN w' B w.heap.size v' (armF d a k) ∧ InG w v d v' (armF d a k)) ∧ Below w.heap.size w w' := by
  obtain ⟨Al, cl, Ar, cr, rfl, hf, he⟩ := h
  obtain ⟨room, lies, rs, down, at_, keep, left⟩ := d
  simp only at hf he
  have HX := Lib.hid (And.intro hf he)
  clear hf he
  by_cases h1 : a < 1
  · have HA := Lib.hid (show armF ⟨room, lies, rs, down, at_, keep, left⟩ a k = ⟨room, lies, rs, down, a, k, 0⟩ by simp [armF, h1])
    rw [HA.out]
    go_enter Try.func15, Try.ntmps15
    go_wp2
    have hb : Below w.heap.size w (((w.alloc (.cells (dcells Al cl Ar cr ⟨room, lies, rs, down, a, k, 0⟩) 35)).alloc (.cells #[.int .i64 a, .int .u64 k] 33)).alloc (.cells (dcells Al cl Ar cr ⟨room, lies, rs, down, a, k, 0⟩) 35)) := (((Below.refl _ w).alloc (Nat.le_refl _) _).alloc (by simp) _).alloc (by simp; omega) _
    have hg : (((w.alloc (.cells (dcells Al cl Ar cr ⟨room, lies, rs, down, a, k, 0⟩) 35)).alloc (.cells #[.int .i64 a, .int .u64 k] 33)).alloc (.cells (dcells Al cl Ar cr ⟨room, lies, rs, down, a, k, 0⟩) 35)).heap[w.heap.size + 1 + 1]? = some (.cells (dcells Al cl Ar cr ⟨room, lies, rs, down, a, k, 0⟩) 35) := by
      have h9 := heap_alloc_new ((w.alloc (.cells (dcells Al cl Ar cr ⟨room, lies, rs, down, a, k, 0⟩) 35)).alloc (.cells #[.int .i64 a, .int .u64 k] 33)) (.cells (dcells Al cl Ar cr ⟨room, lies, rs, down, a, k, 0⟩) 35)
      rwa [World.size_alloc, World.size_alloc] at h9
    refine bodyPost_ret (dk_ret1 Try.results15 _ _ (w.heap.size + 1 + 1) Al cl Ar cr ⟨room, lies, rs, down, a, k, 0⟩ rfl hg) rfl ⟨⟨_, rfl, ⟨Al, cl, Ar, cr, rfl, ?_, ?_, blk_recs HX.out.1, blk_recs HX.out.2⟩, inG_same (d := ⟨room, lies, rs, down, at_, keep, left⟩) rfl rfl⟩, hb⟩
    · exact (HX.out.1.below (hb.mono hB)).mono (Nat.le_trans hB hb.size)
    · exact (HX.out.2.below (hb.mono hB)).mono (Nat.le_trans hB hb.size)
  · have HA := Lib.hid (show armF ⟨room, lies, rs, down, at_, keep, left⟩ a k = ⟨room, lies, rs, down, a, k, a⟩ by simp [armF, h1])
    rw [HA.out]
    go_enter Try.func15, Try.ntmps15
    go_wp2
    have hb : Below w.heap.size w (((w.alloc (.cells (dcells Al cl Ar cr ⟨room, lies, rs, down, a, k, a⟩) 35)).alloc (.cells #[.int .i64 a, .int .u64 k] 33)).alloc (.cells (dcells Al cl Ar cr ⟨room, lies, rs, down, a, k, a⟩) 35)) := (((Below.refl _ w).alloc (Nat.le_refl _) _).alloc (by simp) _).alloc (by simp; omega) _
    have hg : (((w.alloc (.cells (dcells Al cl Ar cr ⟨room, lies, rs, down, a, k, a⟩) 35)).alloc (.cells #[.int .i64 a, .int .u64 k] 33)).alloc (.cells (dcells Al cl Ar cr ⟨room, lies, rs, down, a, k, a⟩) 35)).heap[w.heap.size + 1 + 1]? = some (.cells (dcells Al cl Ar cr ⟨room, lies, rs, down, a, k, a⟩) 35) := by
      have h9 := heap_alloc_new ((w.alloc (.cells (dcells Al cl Ar cr ⟨room, lies, rs, down, a, k, a⟩) 35)).alloc (.cells #[.int .i64 a, .int .u64 k] 33)) (.cells (dcells Al cl Ar cr ⟨room, lies, rs, down, a, k, a⟩) 35)
      rwa [World.size_alloc, World.size_alloc] at h9
    refine bodyPost_ret (dk_ret1 Try.results15 _ _ (w.heap.size + 1 + 1) Al cl Ar cr ⟨room, lies, rs, down, a, k, a⟩ rfl hg) rfl ⟨⟨_, rfl, ⟨Al, cl, Ar, cr, rfl, ?_, ?_, blk_recs HX.out.1, blk_recs HX.out.2⟩, inG_same (d := ⟨room, lies, rs, down, at_, keep, left⟩) rfl rfl⟩, hb⟩
    · exact (HX.out.1.below (hb.mono hB)).mono (Nat.le_trans hB hb.size)
    · exact (HX.out.2.below (hb.mono hB)).mono (Nat.le_trans hB hb.size)

set_option maxHeartbeats 4000000 in
set_option maxRecDepth 100000 in
theorem sync_g (w : World) (B : Nat) (v : Value) (d : Dsk) (h : DkV w B v d) (hB : B ≤ w.heap.size) (h0 : 0 ≤ d.left) (hmx : d.left ≤ 9223372036854775807) (hl : d.lies.length + d.rows.length ≤ 3000) (hk0 : 0 ≤ d.keep) (hk1 : d.keep < 18446744073709551616) :
    Calls Try.prog 14 #[v] w fun r w' => (∃ v', r = .returned (.tuple #[v', .int .i64 (syncF d).2]) ∧ DkN w' B w.heap.size v' (syncF d).1 ∧ InG w v d v' (syncF d).1) ∧ Below w.heap.size w w' := by
  have h' := h
  obtain ⟨Al, cl, Ar, cr, rfl, hf, he⟩ := h
  obtain ⟨room, lies, rs, down, at_, keep, left⟩ := d
  simp only at hf he h0 hmx hl hk0 hk1 ⊢
  have hb0 : Below w.heap.size w ((w.alloc (.cells (dcells Al cl Ar cr ⟨room, lies, rs, down, at_, keep, left⟩) 35)).alloc (.cells (dcells none 0 none 0 zeroD) 35)) := ((Below.refl _ w).alloc (Nat.le_refl _) _).alloc (by simp) _
  have hz0 : ((w.alloc (.cells (dcells Al cl Ar cr ⟨room, lies, rs, down, at_, keep, left⟩) 35)).alloc (.cells (dcells none 0 none 0 zeroD) 35)).heap.size = w.heap.size + 2 := by simp
  have hg0 : ((w.alloc (.cells (dcells Al cl Ar cr ⟨room, lies, rs, down, at_, keep, left⟩) 35)).alloc (.cells (dcells none 0 none 0 zeroD) 35)).heap[w.heap.size]? = some (.cells (dcells Al cl Ar cr ⟨room, lies, rs, down, at_, keep, left⟩) 35) := (Below.heap_alloc _ _ _ (by simp)).trans (heap_alloc_new w _)
  have hg1 : ((w.alloc (.cells (dcells Al cl Ar cr ⟨room, lies, rs, down, at_, keep, left⟩) 35)).alloc (.cells (dcells none 0 none 0 zeroD) 35)).heap[w.heap.size + 1]? = some (.cells (dcells none 0 none 0 zeroD) 35) := by
    have h9 := heap_alloc_new (w.alloc (.cells (dcells Al cl Ar cr ⟨room, lies, rs, down, at_, keep, left⟩) 35)) (.cells (dcells none 0 none 0 zeroD) 35)
    rwa [World.size_alloc] at h9
  have hC := call_any _ B _ ⟨room, lies, rs, down, at_, keep, left⟩ (h'.below (hb0.mono hB)) (by rw [hz0]; omega) h0 hmx hl hk0 hk1
  rw [hz0] at hC
  have HX := Lib.hid (And.intro hb0 (And.intro hz0 (And.intro hg0 (And.intro hg1 (And.intro hf he)))))
  have HV := Lib.hid h'
  cases down with
  | true =>
    have HD := Lib.hid (show syncF ⟨room, lies, rs, true, at_, keep, left⟩ = (⟨room, lies, rs, true, at_, keep, left⟩, 8) by simp [syncF])
    rw [HD.out]
    clear hC hb0 hz0 hg0 hg1 h' hf he
    go_enter Try.func14, Try.ntmps14
    go_wp2
    have hb : Below w.heap.size w ((w.alloc (.cells (dcells Al cl Ar cr ⟨room, lies, rs, true, at_, keep, left⟩) 35)).alloc (.cells (dcells Al cl Ar cr ⟨room, lies, rs, true, at_, keep, left⟩) 35)) := ((Below.refl _ w).alloc (Nat.le_refl _) _).alloc (by simp) _
    have hg : ((w.alloc (.cells (dcells Al cl Ar cr ⟨room, lies, rs, true, at_, keep, left⟩) 35)).alloc (.cells (dcells Al cl Ar cr ⟨room, lies, rs, true, at_, keep, left⟩) 35)).heap[w.heap.size + 1]? = some (.cells (dcells Al cl Ar cr ⟨room, lies, rs, true, at_, keep, left⟩) 35) := by
      have h9 := heap_alloc_new (w.alloc (.cells (dcells Al cl Ar cr ⟨room, lies, rs, true, at_, keep, left⟩) 35)) (.cells (dcells Al cl Ar cr ⟨room, lies, rs, true, at_, keep, left⟩) 35)
      rwa [World.size_alloc] at h9
    refine bodyPost_ret (dk_ret Try.results14 _ _ (w.heap.size + 1) Al cl Ar cr ⟨room, lies, rs, true, at_, keep, left⟩ rfl hg) rfl ⟨⟨_, rfl, ⟨Al, cl, Ar, cr, rfl, ?_, ?_, blk_recs HX.out.2.2.2.2.1, blk_recs HX.out.2.2.2.2.2⟩, inG_same (d := ⟨room, lies, rs, true, at_, keep, left⟩) rfl rfl⟩, hb⟩
    · exact (HX.out.2.2.2.2.1.below (hb.mono hB)).mono (Nat.le_trans hB hb.size)
    · exact (HX.out.2.2.2.2.2.below (hb.mono hB)).mono (Nat.le_trans hB hb.size)
  | false =>
    have HC := Lib.hid hC
    have HD := Lib.hid (show syncF ⟨room, lies, rs, false, at_, keep, left⟩ = (if (callF ⟨room, lies, rs, false, at_, keep, left⟩).2 = true then ((callF ⟨room, lies, rs, false, at_, keep, left⟩).1, 8) else ({ (callF ⟨room, lies, rs, false, at_, keep, left⟩).1 with lies := seenF lies rs, rows := [] }, 0)) by simp [syncF])
    rw [HD.out]
    clear hC hb0 hz0 hg0 hg1 h' hf he HD
    generalize callF ⟨room, lies, rs, false, at_, keep, left⟩ = R at *
    obtain ⟨⟨room2, lies2, rs2, down2, at2, keep2, left2⟩, fl⟩ := R
    go_enter Try.func14, Try.ntmps14
    go_wp2_with fail
    refine HC.out.mono ?_
    rintro r w2 ⟨⟨v2, rfl, ⟨A1, c1, A2, c2, rfl, hf2, he2, hn1, hn2⟩, hin⟩, hb2⟩
    simp only at hf2 he2 hn1 hn2
    have hz2 : w.heap.size + 2 ≤ w2.heap.size := by have h9 := hb2.size; rw [HX.out.2.1] at h9; exact h9
    have hg0 : w2.heap[w.heap.size]? = some (.cells (dcells Al cl Ar cr ⟨room, lies, rs, false, at_, keep, left⟩) 35) := (hb2.block _ (by omega)).trans HX.out.2.2.1
    have hg1 : w2.heap[w.heap.size + 1]? = some (.cells (dcells none 0 none 0 zeroD) 35) := (hb2.block _ (by omega)).trans HX.out.2.2.2.1
    have HB2 := Lib.hid (HX.out.1.trans (hb2.mono (by omega)))
    have HIN := Lib.hid hin
    clear hin
    have HN := Lib.hid (And.intro hf2 (And.intro he2 (And.intro hn1 hn2)))
    have HG := Lib.hid (And.intro hg0 hg1)
    have hg0' : (w2.alloc (.cells #[.int .i64 room2, .slice A1 lies2.length c1, .slice A2 rs2.length c2, .bool down2, .int .i64 at2, .int .u64 keep2, .int .i64 left2] 35)).heap[w.heap.size]? = some (.cells (dcells Al cl Ar cr ⟨room, lies, rs, false, at_, keep, left⟩) 35) := (Below.heap_alloc _ _ _ (by omega)).trans hg0
    have hg1' : (w2.alloc (.cells #[.int .i64 room2, .slice A1 lies2.length c1, .slice A2 rs2.length c2, .bool down2, .int .i64 at2, .int .u64 keep2, .int .i64 left2] 35)).heap[w.heap.size + 1]? = some (.cells (dcells none 0 none 0 zeroD) 35) := (Below.heap_alloc _ _ _ (by omega)).trans hg1
    have f1 := fun i => unfrozen_of_cells hg1' i
    have HG' := Lib.hid (And.intro hg0' hg1')
    have i0 : (w2.alloc (.cells #[.int .i64 room2, .slice A1 lies2.length c1, .slice A2 rs2.length c2, .bool down2, .int .i64 at2, .int .u64 keep2, .int .i64 left2] 35)).cell? ⟨w.heap.size + 1, 0, none⟩ = some (.int .i64 0) := by rw [cell_of_cells hg1']; rfl
    have i1 : (w2.alloc (.cells #[.int .i64 room2, .slice A1 lies2.length c1, .slice A2 rs2.length c2, .bool down2, .int .i64 at2, .int .u64 keep2, .int .i64 left2] 35)).cell? ⟨w.heap.size + 1, 1, none⟩ = some (.slice none 0 0) := by rw [cell_of_cells hg1']; rfl
    have i2 : (w2.alloc (.cells #[.int .i64 room2, .slice A1 lies2.length c1, .slice A2 rs2.length c2, .bool down2, .int .i64 at2, .int .u64 keep2, .int .i64 left2] 35)).cell? ⟨w.heap.size + 1, 2, none⟩ = some (.slice none 0 0) := by rw [cell_of_cells hg1']; rfl
    have i3 : (w2.alloc (.cells #[.int .i64 room2, .slice A1 lies2.length c1, .slice A2 rs2.length c2, .bool down2, .int .i64 at2, .int .u64 keep2, .int .i64 left2] 35)).cell? ⟨w.heap.size + 1, 3, none⟩ = some (.bool false) := by rw [cell_of_cells hg1']; rfl
    have i4 : (w2.alloc (.cells #[.int .i64 room2, .slice A1 lies2.length c1, .slice A2 rs2.length c2, .bool down2, .int .i64 at2, .int .u64 keep2, .int .i64 left2] 35)).cell? ⟨w.heap.size + 1, 4, none⟩ = some (.int .i64 0) := by rw [cell_of_cells hg1']; rfl
    have i5 : (w2.alloc (.cells #[.int .i64 room2, .slice A1 lies2.length c1, .slice A2 rs2.length c2, .bool down2, .int .i64 at2, .int .u64 keep2, .int .i64 left2] 35)).cell? ⟨w.heap.size + 1, 5, none⟩ = some (.int .u64 0) := by rw [cell_of_cells hg1']; rfl
    have i6 : (w2.alloc (.cells #[.int .i64 room2, .slice A1 lies2.length c1, .slice A2 rs2.length c2, .bool down2, .int .i64 at2, .int .u64 keep2, .int .i64 left2] 35)).cell? ⟨w.heap.size + 1, 6, none⟩ = some (.int .i64 0) := by rw [cell_of_cells hg1']; rfl
    have j0 : (w2.alloc (.cells #[.int .i64 room2, .slice A1 lies2.length c1, .slice A2 rs2.length c2, .bool down2, .int .i64 at2, .int .u64 keep2, .int .i64 left2] 35)).cell? ⟨w.heap.size, 0, none⟩ = some (.int .i64 room) := by rw [cell_of_cells hg0']; rfl
    have j1 : (w2.alloc (.cells #[.int .i64 room2, .slice A1 lies2.length c1, .slice A2 rs2.length c2, .bool down2, .int .i64 at2, .int .u64 keep2, .int .i64 left2] 35)).cell? ⟨w.heap.size, 1, none⟩ = some (.slice Al lies.length cl) := by rw [cell_of_cells hg0']; rfl
    have j2 : (w2.alloc (.cells #[.int .i64 room2, .slice A1 lies2.length c1, .slice A2 rs2.length c2, .bool down2, .int .i64 at2, .int .u64 keep2, .int .i64 left2] 35)).cell? ⟨w.heap.size, 2, none⟩ = some (.slice Ar rs.length cr) := by rw [cell_of_cells hg0']; rfl
    have j3 : (w2.alloc (.cells #[.int .i64 room2, .slice A1 lies2.length c1, .slice A2 rs2.length c2, .bool down2, .int .i64 at2, .int .u64 keep2, .int .i64 left2] 35)).cell? ⟨w.heap.size, 3, none⟩ = some (.bool false) := by rw [cell_of_cells hg0']; rfl
    have j4 : (w2.alloc (.cells #[.int .i64 room2, .slice A1 lies2.length c1, .slice A2 rs2.length c2, .bool down2, .int .i64 at2, .int .u64 keep2, .int .i64 left2] 35)).cell? ⟨w.heap.size, 4, none⟩ = some (.int .i64 at_) := by rw [cell_of_cells hg0']; rfl
    have j5 : (w2.alloc (.cells #[.int .i64 room2, .slice A1 lies2.length c1, .slice A2 rs2.length c2, .bool down2, .int .i64 at2, .int .u64 keep2, .int .i64 left2] 35)).cell? ⟨w.heap.size, 5, none⟩ = some (.int .u64 keep) := by rw [cell_of_cells hg0']; rfl
    have j6 : (w2.alloc (.cells #[.int .i64 room2, .slice A1 lies2.length c1, .slice A2 rs2.length c2, .bool down2, .int .i64 at2, .int .u64 keep2, .int .i64 left2] 35)).cell? ⟨w.heap.size, 6, none⟩ = some (.int .i64 left) := by rw [cell_of_cells hg0']; rfl
    clear hg0 hg1 hb2 hf2 he2 hn1 hn2 HC hg0' hg1'
    have hb3 : Below w.heap.size w (w2.alloc (.cells #[.int .i64 room2, .slice A1 lies2.length c1, .slice A2 rs2.length c2, .bool down2, .int .i64 at2, .int .u64 keep2, .int .i64 left2] 35)) := HB2.out.alloc (by omega) _
    have HB3 := Lib.hid hb3
    clear hb3
    cases fl with
    | true =>
      go_wp2
      obtain ⟨g1, g2, g3, g4, g5, g6⟩ := dk_seven (w := w) (w1 := (w2.alloc (.cells #[.int .i64 room2, .slice A1 lies2.length c1, .slice A2 rs2.length c2, .bool down2, .int .i64 at2, .int .u64 keep2, .int .i64 left2] 35))) (b := w.heap.size + 1) rfl A1 c1 A2 c2 ⟨room2, lies2, rs2, down2, at2, keep2, left2⟩ HG'.out.2 rfl
      refine bodyPost_ret (dk_ret Try.results14 _ _ (w.heap.size + 1) A1 c1 A2 c2 ⟨room2, lies2, rs2, down2, at2, keep2, left2⟩ rfl g1) rfl ⟨⟨_, rfl, ⟨A1, c1, A2, c2, rfl, ?_, ?_, blk_mono HN.out.2.2.1 (by omega), blk_mono HN.out.2.2.2 (by omega)⟩, inG_mono HIN.out HX.out.1.size⟩, ?_⟩
      · refine recs_keep (fun k => k = w.heap.size + 1) HN.out.1 (fun hn ad ha e => ?_) (by rw [g2]; simp) (fun j hj hn => (g3 j hn).trans (Below.heap_alloc _ _ _ hj))
        have h9 := HN.out.2.2.1 hn ad ha
        omega
      · refine recs_keep (fun k => k = w.heap.size + 1) HN.out.2.1 (fun hn ad ha e => ?_) (by rw [g2]; simp) (fun j hj hn => (g3 j hn).trans (Below.heap_alloc _ _ _ hj))
        have h9 := HN.out.2.2.2 hn ad ha
        omega
      · exact ⟨g4.trans HB3.out.os, g5.trans HB3.out.tape, g6.trans HB3.out.output, by rw [g2]; exact HB3.out.size, fun k hk => (g3 k (by omega)).trans (HB3.out.block k hk)⟩
    | false =>
      have HC := Lib.hid (seen_g (w2.alloc (.cells #[.int .i64 room2, .slice A1 lies2.length c1, .slice A2 rs2.length c2, .bool down2, .int .i64 at2, .int .u64 keep2, .int .i64 left2] 35)) B _ ⟨room, lies, rs, false, at_, keep, left⟩ (HV.out.below (HB3.out.mono hB)) (Nat.le_trans hB HB3.out.size) hl)
      simp only at HC
      obtain ⟨L, hL⟩ : ∃ L, seenF lies rs = L := ⟨_, rfl⟩
      rw [hL] at HC
      have HLL := Lib.hid hL
      clear hL
      go_wp2_with fail
      refine HC.out.mono ?_
      rintro r w5 ⟨⟨A5, c5, rfl, hf5, hn5, hG5⟩, hb5⟩
      have hs3 : (w2.alloc (.cells #[.int .i64 room2, .slice A1 lies2.length c1, .slice A2 rs2.length c2, .bool down2, .int .i64 at2, .int .u64 keep2, .int .i64 left2] 35)).heap.size = w2.heap.size + 1 := by simp
      rw [hs3] at hb5 hn5 hG5
      have HG5 := Lib.hid hG5
      have hzw := HB2.out.size
      clear hG5
      have ht5 : w5.heap[w2.heap.size]? = some (.cells #[.int .i64 room2, .slice A1 lies2.length c1, .slice A2 rs2.length c2, .bool down2, .int .i64 at2, .int .u64 keep2, .int .i64 left2] 35) := (hb5.block _ (by omega)).trans (heap_alloc_new w2 _)
      have hg5 : w5.heap[w.heap.size + 1]? = some (.cells (dcells none 0 none 0 zeroD) 35) := (hb5.block _ (by omega)).trans HG'.out.2
      have hz5 : w2.heap.size + 1 ≤ w5.heap.size := by have h9 := hb5.size; rw [hs3] at h9; exact h9
      have f5 := fun i => unfrozen_of_cells ht5 i
      have f6 := fun i => unfrozen_of_cells hg5 i
      have p0 : w5.cell? ⟨w2.heap.size, 0, none⟩ = some (.int .i64 room2) := by rw [cell_of_cells ht5]; rfl
      have p1 : w5.cell? ⟨w2.heap.size, 1, none⟩ = some (.slice A1 lies2.length c1) := by rw [cell_of_cells ht5]; rfl
      have p2 : w5.cell? ⟨w2.heap.size, 2, none⟩ = some (.slice A2 rs2.length c2) := by rw [cell_of_cells ht5]; rfl
      have p3 : w5.cell? ⟨w2.heap.size, 3, none⟩ = some (.bool down2) := by rw [cell_of_cells ht5]; rfl
      have p4 : w5.cell? ⟨w2.heap.size, 4, none⟩ = some (.int .i64 at2) := by rw [cell_of_cells ht5]; rfl
      have p5 : w5.cell? ⟨w2.heap.size, 5, none⟩ = some (.int .u64 keep2) := by rw [cell_of_cells ht5]; rfl
      have p6 : w5.cell? ⟨w2.heap.size, 6, none⟩ = some (.int .i64 left2) := by rw [cell_of_cells ht5]; rfl
      have q0 : w5.cell? ⟨w.heap.size + 1, 0, none⟩ = some (.int .i64 0) := by rw [cell_of_cells hg5]; rfl
      have q1 : w5.cell? ⟨w.heap.size + 1, 1, none⟩ = some (.slice none 0 0) := by rw [cell_of_cells hg5]; rfl
      have q2 : w5.cell? ⟨w.heap.size + 1, 2, none⟩ = some (.slice none 0 0) := by rw [cell_of_cells hg5]; rfl
      have q3 : w5.cell? ⟨w.heap.size + 1, 3, none⟩ = some (.bool false) := by rw [cell_of_cells hg5]; rfl
      have q4 : w5.cell? ⟨w.heap.size + 1, 4, none⟩ = some (.int .i64 0) := by rw [cell_of_cells hg5]; rfl
      have q5 : w5.cell? ⟨w.heap.size + 1, 5, none⟩ = some (.int .u64 0) := by rw [cell_of_cells hg5]; rfl
      have q6 : w5.cell? ⟨w.heap.size + 1, 6, none⟩ = some (.int .i64 0) := by rw [cell_of_cells hg5]; rfl
      have hne1 : w2.heap.size ≠ w.heap.size + 1 := by omega
      have hne2 : w.heap.size + 1 ≠ w2.heap.size := by omega
      have HF := Lib.hid (And.intro hf5 (And.intro hn5 (And.intro hg5 (And.intro (HB3.out.trans (hb5.mono (by omega))) hz5))))
      clear hf5 hn5 hg5 ht5 hb5 hs3 HC f1 i0 i1 i2 i3 i4 i5 i6 j0 j1 j2 j3 j4 j5 j6
      go_wp2
      obtain ⟨W1, hW1⟩ : ∃ W1, W1 = (w5.setCell ⟨w2.heap.size, 1, none⟩ (.slice A5 L.length c5)).setCell ⟨w2.heap.size, 2, none⟩ (.slice none 0 0) := ⟨_, rfl⟩
      have hs1 : W1.heap.size = w5.heap.size := by rw [hW1, st_size, st_size]
      have hk1 : ∀ k, k ≠ w2.heap.size → W1.heap[k]? = w5.heap[k]? := fun k hk => by rw [hW1, Below.heap_setCell _ _ _ _ hk, Below.heap_setCell _ _ _ _ hk]
      have ho : W1.os = w5.os ∧ W1.tape = w5.tape ∧ W1.output = w5.output := by rw [hW1]; exact ⟨rfl, rfl, rfl⟩
      rw [← hW1]
      obtain ⟨g1, g2, g3, g4, g5, g6⟩ := dk_seven (w := w) (w1 := W1) (b := w.heap.size + 1) rfl A5 c5 none 0 ⟨room2, L, [], down2, at2, keep2, left2⟩ ((hk1 _ hne2).trans HF.out.2.2.1) rfl
      refine bodyPost_ret (dk_ret Try.results14 _ _ (w.heap.size + 1) A5 c5 none 0 ⟨room2, L, [], down2, at2, keep2, left2⟩ rfl g1) rfl ⟨⟨_, rfl, ⟨A5, c5, none, 0, ?_, ?_, recs_nil _ _ _, ?_, (fun hn => absurd rfl hn)⟩, ?_⟩, ?_⟩
      · rw [HLL.out]; rfl
      · rw [HLL.out]
        refine recs_keep (fun k => k = w.heap.size + 1 ∨ k = w2.heap.size) HF.out.1 (fun hn ad ha e => ?_) (Nat.le_of_eq (g2.trans hs1).symm) (fun j hj hn => (g3 j (fun e => hn (.inl e))).trans (hk1 j (fun e => hn (.inr e))))
        have h9 := HF.out.2.1 hn ad ha
        omega
      · rw [HLL.out]; exact blk_mono HF.out.2.1 (by omega)
      · rw [HLL.out]
        exact fun G hG hn => ⟨A5, c5, none, 0, rfl, HG5.out G hG (fun k hk => hn k (by omega)), fun h9 => absurd rfl h9⟩
      · exact ⟨(g4.trans ho.1).trans HF.out.2.2.2.1.os, (g5.trans ho.2.1).trans HF.out.2.2.2.1.tape, (g6.trans ho.2.2).trans HF.out.2.2.2.1.output, Nat.le_trans HF.out.2.2.2.1.size (Nat.le_of_eq (g2.trans hs1).symm), fun k hk => ((g3 k (by omega)).trans (hk1 k (by omega))).trans (HF.out.2.2.2.1.block k hk)⟩
end Go.Proofs.Ytdgfbpkpfmdjjaa.Hk
