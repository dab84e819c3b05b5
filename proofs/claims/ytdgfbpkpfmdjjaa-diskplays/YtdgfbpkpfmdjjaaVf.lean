/-
  The document's New, Arm and Sync (layer 7).
-/
import Derived.Test.YtdgfbpkpfmdjjaaVe
namespace Go.Proofs.Ytdgfbpkpfmdjjaa.Hk
open Go.RowKit Hr Hw
set_option linter.unusedVariables false

theorem dk_ret1 {fn : Func} {p : Tmp} (h : fn.results = #[.cell p 35]) (tmps : Array Value) (w : World) (g : Nat) (Al : Option Addr) (cl : Nat) (Ar : Option Addr) (cr : Nat) (d : Dsk)
    (hp : tmps.getD p undef = .pointer (some ⟨g, 0, none⟩)) (hg : w.heap[g]? = some (.cells (dcells Al cl Ar cr d) 35)) : (results fn tmps).run Try.prog w = .ok (.agg (dcells Al cl Ar cr d)) w :=
  results_cell_row h tmps w g _ _ (0, 0) _ hp hg Try.underlying35 rfl dk_size

set_option maxHeartbeats 1000000 in
set_option maxRecDepth 100000 in
theorem new_any (w : World) (room : Int) : Calls Try.prog 11 #[.int .i64 room] w fun r w' => (∃ v, r = .returned (.tuple #[v, .bool (decide (0 ≤ room) && decide (room ≤ 16777216))]) ∧ DkV w' 0 v ⟨room, [], [], false, 0, 0, 0⟩) ∧ Below w.heap.size w w' := by
  by_cases h1 : 0 ≤ room
  · by_cases h2 : room ≤ 16777216
    · have hx : (decide (0 ≤ room) && decide (room ≤ 16777216)) = true := by simp; omega
      rw [hx]
      go_enter Try.func11, Try.ntmps11
      go_wp2
      exact bodyPost_ret (dk_ret Try.results11 _ _ w.heap.size none 0 none 0 ⟨room, [], [], false, 0, 0, 0⟩ rfl (heap_alloc_new w _)) rfl ⟨⟨.agg (dcells none 0 none 0 ⟨room, [], [], false, 0, 0, 0⟩), rfl, none, 0, none, 0, rfl, recs_nil _ _ _, recs_nil _ _ _⟩, (Below.refl _ w).alloc (Nat.le_refl _) _⟩
    · have hx : (decide (0 ≤ room) && decide (room ≤ 16777216)) = false := by simp; omega
      rw [hx]
      go_enter Try.func11, Try.ntmps11
      go_wp2
      exact bodyPost_ret (dk_ret Try.results11 _ _ w.heap.size none 0 none 0 ⟨room, [], [], false, 0, 0, 0⟩ rfl (heap_alloc_new w _)) rfl ⟨⟨.agg (dcells none 0 none 0 ⟨room, [], [], false, 0, 0, 0⟩), rfl, none, 0, none, 0, rfl, recs_nil _ _ _, recs_nil _ _ _⟩, (Below.refl _ w).alloc (Nat.le_refl _) _⟩
  · have h1' : room < 0 := by omega
    have hx : (decide (0 ≤ room) && decide (room ≤ 16777216)) = false := by simp; omega
    rw [hx]
    go_enter Try.func11, Try.ntmps11
    go_wp2
    refine bodyPost_ret (dk_ret Try.results11 _ _ w.heap.size none 0 none 0 ⟨room, [], [], false, 0, 0, 0⟩ rfl (heap_alloc_new w _)) rfl ⟨⟨.agg (dcells none 0 none 0 ⟨room, [], [], false, 0, 0, 0⟩), ?_, none, 0, none, 0, rfl, recs_nil _ _ _, recs_nil _ _ _⟩, (Below.refl _ w).alloc (Nat.le_refl _) _⟩
    simp

def armF (d : Dsk) (at_ keep : Int) : Dsk := { d with at_ := at_, keep := keep, left := if at_ < 1 then 0 else at_ }
set_option maxHeartbeats 2000000 in
set_option maxRecDepth 100000 in
theorem arm_any (w : World) (B : Nat) (v : Value) (d : Dsk) (a k : Int) (h : DkV w B v d) (hB : B ≤ w.heap.size) :
    Calls Try.prog 15 #[v, .agg #[.int .i64 a, .int .u64 k]] w fun r w' => (∃ v', r = .returned v' ∧ DkN w' B w.heap.size v' (armF d a k)) ∧ Below w.heap.size w w' := by
  obtain ⟨Al, cl, Ar, cr, rfl, hf, he⟩ := h
  obtain ⟨room, lies, rs, down, at_, keep, left⟩ := d
  simp only at hf he
  have HX := Lib.hid (And.intro hf he)
  clear hf he
  by_cases h1 : a < 1
  · have HA := Lib.hid (show armF ⟨room, lies, rs, down, at_, keep, left⟩ a k = ⟨room, lies, rs, down, a, k, 0⟩ by simp [armF, h1])
    rw [HA.out]
    go_enter Try.func15, Try.ntmps15
    go_wp2
    have hb : Below w.heap.size w (((w.alloc (.cells (dcells Al cl Ar cr ⟨room, lies, rs, down, a, k, 0⟩) 35)).alloc (.cells #[.int .i64 a, .int .u64 k] 33)).alloc (.cells (dcells Al cl Ar cr ⟨room, lies, rs, down, a, k, 0⟩) 35)) := (((Below.refl _ w).alloc (Nat.le_refl _) _).alloc (by simp) _).alloc (by simp; omega) _
    have hg : (((w.alloc (.cells (dcells Al cl Ar cr ⟨room, lies, rs, down, a, k, 0⟩) 35)).alloc (.cells #[.int .i64 a, .int .u64 k] 33)).alloc (.cells (dcells Al cl Ar cr ⟨room, lies, rs, down, a, k, 0⟩) 35)).heap[w.heap.size + 1 + 1]? = some (.cells (dcells Al cl Ar cr ⟨room, lies, rs, down, a, k, 0⟩) 35) := by
      have h9 := heap_alloc_new ((w.alloc (.cells (dcells Al cl Ar cr ⟨room, lies, rs, down, a, k, 0⟩) 35)).alloc (.cells #[.int .i64 a, .int .u64 k] 33)) (.cells (dcells Al cl Ar cr ⟨room, lies, rs, down, a, k, 0⟩) 35)
      rwa [World.size_alloc, World.size_alloc] at h9
    refine bodyPost_ret (dk_ret1 Try.results15 _ _ (w.heap.size + 1 + 1) Al cl Ar cr ⟨room, lies, rs, down, a, k, 0⟩ rfl hg) rfl ⟨⟨_, rfl, Al, cl, Ar, cr, rfl, ?_, ?_, blk_recs HX.out.1, blk_recs HX.out.2⟩, hb⟩
    · exact (HX.out.1.below (hb.mono hB)).mono (Nat.le_trans hB hb.size)
    · exact (HX.out.2.below (hb.mono hB)).mono (Nat.le_trans hB hb.size)
  · have HA := Lib.hid (show armF ⟨room, lies, rs, down, at_, keep, left⟩ a k = ⟨room, lies, rs, down, a, k, a⟩ by simp [armF, h1])
    rw [HA.out]
    go_enter Try.func15, Try.ntmps15
    go_wp2
    have hb : Below w.heap.size w (((w.alloc (.cells (dcells Al cl Ar cr ⟨room, lies, rs, down, a, k, a⟩) 35)).alloc (.cells #[.int .i64 a, .int .u64 k] 33)).alloc (.cells (dcells Al cl Ar cr ⟨room, lies, rs, down, a, k, a⟩) 35)) := (((Below.refl _ w).alloc (Nat.le_refl _) _).alloc (by simp) _).alloc (by simp; omega) _
    have hg : (((w.alloc (.cells (dcells Al cl Ar cr ⟨room, lies, rs, down, a, k, a⟩) 35)).alloc (.cells #[.int .i64 a, .int .u64 k] 33)).alloc (.cells (dcells Al cl Ar cr ⟨room, lies, rs, down, a, k, a⟩) 35)).heap[w.heap.size + 1 + 1]? = some (.cells (dcells Al cl Ar cr ⟨room, lies, rs, down, a, k, a⟩) 35) := by
      have h9 := heap_alloc_new ((w.alloc (.cells (dcells Al cl Ar cr ⟨room, lies, rs, down, a, k, a⟩) 35)).alloc (.cells #[.int .i64 a, .int .u64 k] 33)) (.cells (dcells Al cl Ar cr ⟨room, lies, rs, down, a, k, a⟩) 35)
      rwa [World.size_alloc, World.size_alloc] at h9
    refine bodyPost_ret (dk_ret1 Try.results15 _ _ (w.heap.size + 1 + 1) Al cl Ar cr ⟨room, lies, rs, down, a, k, a⟩ rfl hg) rfl ⟨⟨_, rfl, Al, cl, Ar, cr, rfl, ?_, ?_, blk_recs HX.out.1, blk_recs HX.out.2⟩, hb⟩
    · exact (HX.out.1.below (hb.mono hB)).mono (Nat.le_trans hB hb.size)
    · exact (HX.out.2.below (hb.mono hB)).mono (Nat.le_trans hB hb.size)

/-! ### Sync -/
def syncF (d : Dsk) : Dsk × Int :=
  if d.down = true then (d, 8) else if (callF d).2 = true then ((callF d).1, 8) else ({ (callF d).1 with lies := seenF d.lies d.rows, rows := [] }, 0)
theorem recs_keep {α : Type} [Inhabited α] {k : Nat} {f : α → List Value} {w w' : World} {A : Option Addr} {l : List α} (Ch : Nat → Prop) (h : Recs k f w w.heap.size A l) (hne : l ≠ [] → ∀ ad, A = some ad → ¬ Ch ad.block) (hs : w.heap.size ≤ w'.heap.size) (hk : ∀ j, j < w.heap.size → ¬ Ch j → w'.heap[j]? = w.heap[j]?) : Recs k f w' w'.heap.size A l := fun i hi => by
  obtain ⟨ad, e, hlt, hc⟩ := h i hi
  have hn := hne (fun e => by rw [e] at hi; cases hi) ad e
  refine ⟨ad, e, Nat.lt_of_lt_of_le hlt hs, fun j hj => ?_⟩
  rw [← hc j hj]
  exact World.cell?_of_block (w := w) (by rw [block_of_add, block_of_add]; exact hk _ hlt hn)
theorem dk_seven {w w1 W' : World} {b : Nat} {cs : Array Value} (hcs : cs.size = 7) (Al : Option Addr) (cl : Nat) (Ar : Option Addr) (cr : Nat) (d : Dsk) (h : w1.heap[b]? = some (.cells cs 35))
    (hW : W' = ((((((w1.setCell ⟨b, 0, none⟩ (.int .i64 d.room)).setCell ⟨b, 1, none⟩ (.slice Al d.lies.length cl)).setCell ⟨b, 2, none⟩ (.slice Ar d.rows.length cr)).setCell ⟨b, 3, none⟩ (.bool d.down)).setCell ⟨b, 4, none⟩ (.int .i64 d.at_)).setCell ⟨b, 5, none⟩ (.int .u64 d.keep)).setCell ⟨b, 6, none⟩ (.int .i64 d.left)) :
    W'.heap[b]? = some (.cells (dcells Al cl Ar cr d) 35) ∧ W'.heap.size = w1.heap.size ∧ (∀ k, k ≠ b → W'.heap[k]? = w1.heap[k]?) ∧ W'.os = w1.os ∧ W'.tape = w1.tape ∧ W'.output = w1.output := seven hcs _ _ _ _ _ _ _ h W' hW

set_option maxHeartbeats 4000000 in
set_option maxRecDepth 100000 in
theorem sync_any (w : World) (B : Nat) (v : Value) (d : Dsk) (h : DkV w B v d) (hB : B ≤ w.heap.size) (h0 : 0 ≤ d.left) (hmx : d.left ≤ 9223372036854775807) (hl : d.lies.length + d.rows.length ≤ 3000) (hk0 : 0 ≤ d.keep) (hk1 : d.keep < 18446744073709551616) :
    Calls Try.prog 14 #[v] w fun r w' => (∃ v', r = .returned (.tuple #[v', .int .i64 (syncF d).2]) ∧ DkN w' B w.heap.size v' (syncF d).1) ∧ Below w.heap.size w w' := by
  have h' := h
  obtain ⟨Al, cl, Ar, cr, rfl, hf, he⟩ := h
  obtain ⟨room, lies, rs, down, at_, keep, left⟩ := d
  simp only at hf he h0 hmx hl hk0 hk1 ⊢
  have hb0 : Below w.heap.size w ((w.alloc (.cells (dcells Al cl Ar cr ⟨room, lies, rs, down, at_, keep, left⟩) 35)).alloc (.cells (dcells none 0 none 0 zeroD) 35)) := ((Below.refl _ w).alloc (Nat.le_refl _) _).alloc (by simp) _
  have hz0 : ((w.alloc (.cells (dcells Al cl Ar cr ⟨room, lies, rs, down, at_, keep, left⟩) 35)).alloc (.cells (dcells none 0 none 0 zeroD) 35)).heap.size = w.heap.size + 2 := by simp
  have hg0 : ((w.alloc (.cells (dcells Al cl Ar cr ⟨room, lies, rs, down, at_, keep, left⟩) 35)).alloc (.cells (dcells none 0 none 0 zeroD) 35)).heap[w.heap.size]? = some (.cells (dcells Al cl Ar cr ⟨room, lies, rs, down, at_, keep, left⟩) 35) := (Below.heap_alloc _ _ _ (by simp)).trans (heap_alloc_new w _)
  have hg1 : ((w.alloc (.cells (dcells Al cl Ar cr ⟨room, lies, rs, down, at_, keep, left⟩) 35)).alloc (.cells (dcells none 0 none 0 zeroD) 35)).heap[w.heap.size + 1]? = some (.cells (dcells none 0 none 0 zeroD) 35) := by
    have h9 := heap_alloc_new (w.alloc (.cells (dcells Al cl Ar cr ⟨room, lies, rs, down, at_, keep, left⟩) 35)) (.cells (dcells none 0 none 0 zeroD) 35)
    rwa [World.size_alloc] at h9
  have hC := call_any _ B _ ⟨room, lies, rs, down, at_, keep, left⟩ (h'.below (hb0.mono hB)) (by rw [hz0]; omega) h0 hmx hl hk0 hk1
  rw [hz0] at hC
  have HX := Lib.hid (And.intro hb0 (And.intro hz0 (And.intro hg0 (And.intro hg1 (And.intro hf he)))))
  have HV := Lib.hid h'
  cases down with
  | true =>
    have HD := Lib.hid (show syncF ⟨room, lies, rs, true, at_, keep, left⟩ = (⟨room, lies, rs, true, at_, keep, left⟩, 8) by simp [syncF])
    rw [HD.out]
    clear hC hb0 hz0 hg0 hg1 h' hf he
    go_enter Try.func14, Try.ntmps14
    go_wp2
    have hb : Below w.heap.size w ((w.alloc (.cells (dcells Al cl Ar cr ⟨room, lies, rs, true, at_, keep, left⟩) 35)).alloc (.cells (dcells Al cl Ar cr ⟨room, lies, rs, true, at_, keep, left⟩) 35)) := ((Below.refl _ w).alloc (Nat.le_refl _) _).alloc (by simp) _
    have hg : ((w.alloc (.cells (dcells Al cl Ar cr ⟨room, lies, rs, true, at_, keep, left⟩) 35)).alloc (.cells (dcells Al cl Ar cr ⟨room, lies, rs, true, at_, keep, left⟩) 35)).heap[w.heap.size + 1]? = some (.cells (dcells Al cl Ar cr ⟨room, lies, rs, true, at_, keep, left⟩) 35) := by
      have h9 := heap_alloc_new (w.alloc (.cells (dcells Al cl Ar cr ⟨room, lies, rs, true, at_, keep, left⟩) 35)) (.cells (dcells Al cl Ar cr ⟨room, lies, rs, true, at_, keep, left⟩) 35)
      rwa [World.size_alloc] at h9
    refine bodyPost_ret (dk_ret Try.results14 _ _ (w.heap.size + 1) Al cl Ar cr ⟨room, lies, rs, true, at_, keep, left⟩ rfl hg) rfl ⟨⟨_, rfl, Al, cl, Ar, cr, rfl, ?_, ?_, blk_recs HX.out.2.2.2.2.1, blk_recs HX.out.2.2.2.2.2⟩, hb⟩
    · exact (HX.out.2.2.2.2.1.below (hb.mono hB)).mono (Nat.le_trans hB hb.size)
    · exact (HX.out.2.2.2.2.2.below (hb.mono hB)).mono (Nat.le_trans hB hb.size)
  | false =>
    have HC := Lib.hid hC
    have HD := Lib.hid (show syncF ⟨room, lies, rs, false, at_, keep, left⟩ = (if (callF ⟨room, lies, rs, false, at_, keep, left⟩).2 = true then ((callF ⟨room, lies, rs, false, at_, keep, left⟩).1, 8) else ({ (callF ⟨room, lies, rs, false, at_, keep, left⟩).1 with lies := seenF lies rs, rows := [] }, 0)) by simp [syncF])
    rw [HD.out]
    clear hC hb0 hz0 hg0 hg1 h' hf he HD
    generalize callF ⟨room, lies, rs, false, at_, keep, left⟩ = R at *
    obtain ⟨⟨room2, lies2, rs2, down2, at2, keep2, left2⟩, fl⟩ := R
    go_enter Try.func14, Try.ntmps14
    go_wp2_with fail
    refine HC.out.mono ?_
    rintro r w2 ⟨⟨v2, rfl, ⟨A1, c1, A2, c2, rfl, hf2, he2, hn1, hn2⟩, _⟩, hb2⟩
    simp only at hf2 he2 hn1 hn2
    have hz2 : w.heap.size + 2 ≤ w2.heap.size := by have h9 := hb2.size; rw [HX.out.2.1] at h9; exact h9
    have hg0 : w2.heap[w.heap.size]? = some (.cells (dcells Al cl Ar cr ⟨room, lies, rs, false, at_, keep, left⟩) 35) := (hb2.block _ (by omega)).trans HX.out.2.2.1
    have hg1 : w2.heap[w.heap.size + 1]? = some (.cells (dcells none 0 none 0 zeroD) 35) := (hb2.block _ (by omega)).trans HX.out.2.2.2.1
    have HB2 := Lib.hid (HX.out.1.trans (hb2.mono (by omega)))
    have HN := Lib.hid (And.intro hf2 (And.intro he2 (And.intro hn1 hn2)))
    have HG := Lib.hid (And.intro hg0 hg1)
    have hg0' : (w2.alloc (.cells #[.int .i64 room2, .slice A1 lies2.length c1, .slice A2 rs2.length c2, .bool down2, .int .i64 at2, .int .u64 keep2, .int .i64 left2] 35)).heap[w.heap.size]? = some (.cells (dcells Al cl Ar cr ⟨room, lies, rs, false, at_, keep, left⟩) 35) := (Below.heap_alloc _ _ _ (by omega)).trans hg0
    have hg1' : (w2.alloc (.cells #[.int .i64 room2, .slice A1 lies2.length c1, .slice A2 rs2.length c2, .bool down2, .int .i64 at2, .int .u64 keep2, .int .i64 left2] 35)).heap[w.heap.size + 1]? = some (.cells (dcells none 0 none 0 zeroD) 35) := (Below.heap_alloc _ _ _ (by omega)).trans hg1
    have f1 := fun i => unfrozen_of_cells hg1' i
    have HG' := Lib.hid (And.intro hg0' hg1')
    have i0 : (w2.alloc (.cells #[.int .i64 room2, .slice A1 lies2.length c1, .slice A2 rs2.length c2, .bool down2, .int .i64 at2, .int .u64 keep2, .int .i64 left2] 35)).cell? ⟨w.heap.size + 1, 0, none⟩ = some (.int .i64 0) := by rw [cell_of_cells hg1']; rfl
    have i1 : (w2.alloc (.cells #[.int .i64 room2, .slice A1 lies2.length c1, .slice A2 rs2.length c2, .bool down2, .int .i64 at2, .int .u64 keep2, .int .i64 left2] 35)).cell? ⟨w.heap.size + 1, 1, none⟩ = some (.slice none 0 0) := by rw [cell_of_cells hg1']; rfl
    have i2 : (w2.alloc (.cells #[.int .i64 room2, .slice A1 lies2.length c1, .slice A2 rs2.length c2, .bool down2, .int .i64 at2, .int .u64 keep2, .int .i64 left2] 35)).cell? ⟨w.heap.size + 1, 2, none⟩ = some (.slice none 0 0) := by rw [cell_of_cells hg1']; rfl
    have i3 : (w2.alloc (.cells #[.int .i64 room2, .slice A1 lies2.length c1, .slice A2 rs2.length c2, .bool down2, .int .i64 at2, .int .u64 keep2, .int .i64 left2] 35)).cell? ⟨w.heap.size + 1, 3, none⟩ = some (.bool false) := by rw [cell_of_cells hg1']; rfl
    have i4 : (w2.alloc (.cells #[.int .i64 room2, .slice A1 lies2.length c1, .slice A2 rs2.length c2, .bool down2, .int .i64 at2, .int .u64 keep2, .int .i64 left2] 35)).cell? ⟨w.heap.size + 1, 4, none⟩ = some (.int .i64 0) := by rw [cell_of_cells hg1']; rfl
    have i5 : (w2.alloc (.cells #[.int .i64 room2, .slice A1 lies2.length c1, .slice A2 rs2.length c2, .bool down2, .int .i64 at2, .int .u64 keep2, .int .i64 left2] 35)).cell? ⟨w.heap.size + 1, 5, none⟩ = some (.int .u64 0) := by rw [cell_of_cells hg1']; rfl
    have i6 : (w2.alloc (.cells #[.int .i64 room2, .slice A1 lies2.length c1, .slice A2 rs2.length c2, .bool down2, .int .i64 at2, .int .u64 keep2, .int .i64 left2] 35)).cell? ⟨w.heap.size + 1, 6, none⟩ = some (.int .i64 0) := by rw [cell_of_cells hg1']; rfl
    have j0 : (w2.alloc (.cells #[.int .i64 room2, .slice A1 lies2.length c1, .slice A2 rs2.length c2, .bool down2, .int .i64 at2, .int .u64 keep2, .int .i64 left2] 35)).cell? ⟨w.heap.size, 0, none⟩ = some (.int .i64 room) := by rw [cell_of_cells hg0']; rfl
    have j1 : (w2.alloc (.cells #[.int .i64 room2, .slice A1 lies2.length c1, .slice A2 rs2.length c2, .bool down2, .int .i64 at2, .int .u64 keep2, .int .i64 left2] 35)).cell? ⟨w.heap.size, 1, none⟩ = some (.slice Al lies.length cl) := by rw [cell_of_cells hg0']; rfl
    have j2 : (w2.alloc (.cells #[.int .i64 room2, .slice A1 lies2.length c1, .slice A2 rs2.length c2, .bool down2, .int .i64 at2, .int .u64 keep2, .int .i64 left2] 35)).cell? ⟨w.heap.size, 2, none⟩ = some (.slice Ar rs.length cr) := by rw [cell_of_cells hg0']; rfl
    have j3 : (w2.alloc (.cells #[.int .i64 room2, .slice A1 lies2.length c1, .slice A2 rs2.length c2, .bool down2, .int .i64 at2, .int .u64 keep2, .int .i64 left2] 35)).cell? ⟨w.heap.size, 3, none⟩ = some (.bool false) := by rw [cell_of_cells hg0']; rfl
    have j4 : (w2.alloc (.cells #[.int .i64 room2, .slice A1 lies2.length c1, .slice A2 rs2.length c2, .bool down2, .int .i64 at2, .int .u64 keep2, .int .i64 left2] 35)).cell? ⟨w.heap.size, 4, none⟩ = some (.int .i64 at_) := by rw [cell_of_cells hg0']; rfl
    have j5 : (w2.alloc (.cells #[.int .i64 room2, .slice A1 lies2.length c1, .slice A2 rs2.length c2, .bool down2, .int .i64 at2, .int .u64 keep2, .int .i64 left2] 35)).cell? ⟨w.heap.size, 5, none⟩ = some (.int .u64 keep) := by rw [cell_of_cells hg0']; rfl
    have j6 : (w2.alloc (.cells #[.int .i64 room2, .slice A1 lies2.length c1, .slice A2 rs2.length c2, .bool down2, .int .i64 at2, .int .u64 keep2, .int .i64 left2] 35)).cell? ⟨w.heap.size, 6, none⟩ = some (.int .i64 left) := by rw [cell_of_cells hg0']; rfl
    clear hg0 hg1 hb2 hf2 he2 hn1 hn2 HC hg0' hg1'
    have hb3 : Below w.heap.size w (w2.alloc (.cells #[.int .i64 room2, .slice A1 lies2.length c1, .slice A2 rs2.length c2, .bool down2, .int .i64 at2, .int .u64 keep2, .int .i64 left2] 35)) := HB2.out.alloc (by omega) _
    have HB3 := Lib.hid hb3
    clear hb3
    cases fl with
    | true =>
      go_wp2
      obtain ⟨g1, g2, g3, g4, g5, g6⟩ := dk_seven (w := w) (w1 := (w2.alloc (.cells #[.int .i64 room2, .slice A1 lies2.length c1, .slice A2 rs2.length c2, .bool down2, .int .i64 at2, .int .u64 keep2, .int .i64 left2] 35))) (b := w.heap.size + 1) rfl A1 c1 A2 c2 ⟨room2, lies2, rs2, down2, at2, keep2, left2⟩ HG'.out.2 rfl
      refine bodyPost_ret (dk_ret Try.results14 _ _ (w.heap.size + 1) A1 c1 A2 c2 ⟨room2, lies2, rs2, down2, at2, keep2, left2⟩ rfl g1) rfl ⟨⟨_, rfl, A1, c1, A2, c2, rfl, ?_, ?_, blk_mono HN.out.2.2.1 (by omega), blk_mono HN.out.2.2.2 (by omega)⟩, ?_⟩
      · refine recs_keep (fun k => k = w.heap.size + 1) HN.out.1 (fun hn ad ha e => ?_) (by rw [g2]; simp) (fun j hj hn => (g3 j hn).trans (Below.heap_alloc _ _ _ hj))
        have h9 := HN.out.2.2.1 hn ad ha
        omega
      · refine recs_keep (fun k => k = w.heap.size + 1) HN.out.2.1 (fun hn ad ha e => ?_) (by rw [g2]; simp) (fun j hj hn => (g3 j hn).trans (Below.heap_alloc _ _ _ hj))
        have h9 := HN.out.2.2.2 hn ad ha
        omega
      · exact ⟨g4.trans HB3.out.os, g5.trans HB3.out.tape, g6.trans HB3.out.output, by rw [g2]; exact HB3.out.size, fun k hk => (g3 k (by omega)).trans (HB3.out.block k hk)⟩
    | false =>
      have HC := Lib.hid (seen_any (w2.alloc (.cells #[.int .i64 room2, .slice A1 lies2.length c1, .slice A2 rs2.length c2, .bool down2, .int .i64 at2, .int .u64 keep2, .int .i64 left2] 35)) B _ ⟨room, lies, rs, false, at_, keep, left⟩ (HV.out.below (HB3.out.mono hB)) (Nat.le_trans hB HB3.out.size) hl)
      simp only at HC
      obtain ⟨L, hL⟩ : ∃ L, seenF lies rs = L := ⟨_, rfl⟩
      rw [hL] at HC
      have HLL := Lib.hid hL
      clear hL
      go_wp2_with fail
      refine HC.out.mono ?_
      rintro r w5 ⟨⟨A5, c5, rfl, hf5, hn5⟩, hb5⟩
      have hs3 : (w2.alloc (.cells #[.int .i64 room2, .slice A1 lies2.length c1, .slice A2 rs2.length c2, .bool down2, .int .i64 at2, .int .u64 keep2, .int .i64 left2] 35)).heap.size = w2.heap.size + 1 := by simp
      rw [hs3] at hb5 hn5
      have ht5 : w5.heap[w2.heap.size]? = some (.cells #[.int .i64 room2, .slice A1 lies2.length c1, .slice A2 rs2.length c2, .bool down2, .int .i64 at2, .int .u64 keep2, .int .i64 left2] 35) := (hb5.block _ (by omega)).trans (heap_alloc_new w2 _)
      have hg5 : w5.heap[w.heap.size + 1]? = some (.cells (dcells none 0 none 0 zeroD) 35) := (hb5.block _ (by omega)).trans HG'.out.2
      have hz5 : w2.heap.size + 1 ≤ w5.heap.size := by have h9 := hb5.size; rw [hs3] at h9; exact h9
      have f5 := fun i => unfrozen_of_cells ht5 i
      have f6 := fun i => unfrozen_of_cells hg5 i
      have p0 : w5.cell? ⟨w2.heap.size, 0, none⟩ = some (.int .i64 room2) := by rw [cell_of_cells ht5]; rfl
      have p1 : w5.cell? ⟨w2.heap.size, 1, none⟩ = some (.slice A1 lies2.length c1) := by rw [cell_of_cells ht5]; rfl
      have p2 : w5.cell? ⟨w2.heap.size, 2, none⟩ = some (.slice A2 rs2.length c2) := by rw [cell_of_cells ht5]; rfl
      have p3 : w5.cell? ⟨w2.heap.size, 3, none⟩ = some (.bool down2) := by rw [cell_of_cells ht5]; rfl
      have p4 : w5.cell? ⟨w2.heap.size, 4, none⟩ = some (.int .i64 at2) := by rw [cell_of_cells ht5]; rfl
      have p5 : w5.cell? ⟨w2.heap.size, 5, none⟩ = some (.int .u64 keep2) := by rw [cell_of_cells ht5]; rfl
      have p6 : w5.cell? ⟨w2.heap.size, 6, none⟩ = some (.int .i64 left2) := by rw [cell_of_cells ht5]; rfl
      have q0 : w5.cell? ⟨w.heap.size + 1, 0, none⟩ = some (.int .i64 0) := by rw [cell_of_cells hg5]; rfl
      have q1 : w5.cell? ⟨w.heap.size + 1, 1, none⟩ = some (.slice none 0 0) := by rw [cell_of_cells hg5]; rfl
      have q2 : w5.cell? ⟨w.heap.size + 1, 2, none⟩ = some (.slice none 0 0) := by rw [cell_of_cells hg5]; rfl
      have q3 : w5.cell? ⟨w.heap.size + 1, 3, none⟩ = some (.bool false) := by rw [cell_of_cells hg5]; rfl
      have q4 : w5.cell? ⟨w.heap.size + 1, 4, none⟩ = some (.int .i64 0) := by rw [cell_of_cells hg5]; rfl
      have q5 : w5.cell? ⟨w.heap.size + 1, 5, none⟩ = some (.int .u64 0) := by rw [cell_of_cells hg5]; rfl
      have q6 : w5.cell? ⟨w.heap.size + 1, 6, none⟩ = some (.int .i64 0) := by rw [cell_of_cells hg5]; rfl
      have hne1 : w2.heap.size ≠ w.heap.size + 1 := by omega
      have hne2 : w.heap.size + 1 ≠ w2.heap.size := by omega
      have HF := Lib.hid (And.intro hf5 (And.intro hn5 (And.intro hg5 (And.intro (HB3.out.trans (hb5.mono (by omega))) hz5))))
      clear hf5 hn5 hg5 ht5 hb5 hs3 HC f1 i0 i1 i2 i3 i4 i5 i6 j0 j1 j2 j3 j4 j5 j6
      go_wp2
      obtain ⟨W1, hW1⟩ : ∃ W1, W1 = (w5.setCell ⟨w2.heap.size, 1, none⟩ (.slice A5 L.length c5)).setCell ⟨w2.heap.size, 2, none⟩ (.slice none 0 0) := ⟨_, rfl⟩
      have hs1 : W1.heap.size = w5.heap.size := by rw [hW1, st_size, st_size]
      have hk1 : ∀ k, k ≠ w2.heap.size → W1.heap[k]? = w5.heap[k]? := fun k hk => by rw [hW1, Below.heap_setCell _ _ _ _ hk, Below.heap_setCell _ _ _ _ hk]
      have ho : W1.os = w5.os ∧ W1.tape = w5.tape ∧ W1.output = w5.output := by rw [hW1]; exact ⟨rfl, rfl, rfl⟩
      rw [← hW1]
      obtain ⟨g1, g2, g3, g4, g5, g6⟩ := dk_seven (w := w) (w1 := W1) (b := w.heap.size + 1) rfl A5 c5 none 0 ⟨room2, L, [], down2, at2, keep2, left2⟩ ((hk1 _ hne2).trans HF.out.2.2.1) rfl
      refine bodyPost_ret (dk_ret Try.results14 _ _ (w.heap.size + 1) A5 c5 none 0 ⟨room2, L, [], down2, at2, keep2, left2⟩ rfl g1) rfl ⟨⟨_, rfl, A5, c5, none, 0, ?_, ?_, recs_nil _ _ _, ?_, (fun hn => absurd rfl hn)⟩, ?_⟩
      · rw [HLL.out]; rfl
      · rw [HLL.out]
        refine recs_keep (fun k => k = w.heap.size + 1 ∨ k = w2.heap.size) HF.out.1 (fun hn ad ha e => ?_) (Nat.le_of_eq (g2.trans hs1).symm) (fun j hj hn => (g3 j (fun e => hn (.inl e))).trans (hk1 j (fun e => hn (.inr e))))
        have h9 := HF.out.2.1 hn ad ha
        omega
      · rw [HLL.out]; exact blk_mono HF.out.2.1 (by omega)
      · exact ⟨(g4.trans ho.1).trans HF.out.2.2.2.1.os, (g5.trans ho.2.1).trans HF.out.2.2.2.1.tape, (g6.trans ho.2.2).trans HF.out.2.2.2.1.output, Nat.le_trans HF.out.2.2.2.1.size (Nat.le_of_eq (g2.trans hs1).symm), fun k hk => ((g3 k (by omega)).trans (hk1 k (by omega))).trans (HF.out.2.2.2.1.block k hk)⟩
end Go.Proofs.Ytdgfbpkpfmdjjaa.Hk
