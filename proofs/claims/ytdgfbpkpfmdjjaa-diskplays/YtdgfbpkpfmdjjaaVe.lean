/-
  The document's call (layer 7): does the power fail?
-/
import Derived.Test.YtdgfbpkpfmdjjaaVd
import Derived.Laws.ResultCell
namespace Go.Proofs.Ytdgfbpkpfmdjjaa.Hk
open Go.RowKit Hr Hw
set_option linter.unusedVariables false

/-- the cells of a disk -/
def dcells (Al : Option Addr) (cl : Nat) (Ar : Option Addr) (cr : Nat) (d : Dsk) : Array Value := #[.int .i64 d.room, .slice Al d.lies.length cl, .slice Ar d.rows.length cr, .bool d.down, .int .i64 d.at_, .int .u64 d.keep, .int .i64 d.left]

/-- what a disk's slices read lies in blocks of which G holds -/
def BlkG {α : Type} (G : Nat → Prop) (A : Option Addr) (l : List α) : Prop := l ≠ [] → ∀ ad, A = some ad → G ad.block
def HasG (G : Nat → Prop) (v : Value) (d : Dsk) : Prop := ∃ Al cl Ar cr, v = .agg (dcells Al cl Ar cr d) ∧ BlkG G Al d.lies ∧ BlkG G Ar d.rows
/-- of whatever blocks holds of all that is new, and held of them, holds -/
def InG (w : World) (v : Value) (d : Dsk) (v' : Value) (d' : Dsk) : Prop := ∀ G : Nat → Prop, HasG G v d → (∀ k, w.heap.size ≤ k → G k) → HasG G v' d'
theorem hasG_at {G : Nat → Prop} {Al : Option Addr} {cl : Nat} {Ar : Option Addr} {cr : Nat} {d : Dsk} (h : HasG G (.agg (dcells Al cl Ar cr d)) d) : BlkG G Al d.lies ∧ BlkG G Ar d.rows := by
  obtain ⟨Al', cl', Ar', cr', e, h1, h2⟩ := h
  injection e with e
  have e1 : Al = Al' ∧ Ar = Ar' := by simp [dcells] at e; exact ⟨e.1.1, e.2.1⟩
  rw [e1.1, e1.2]
  exact ⟨h1, h2⟩
theorem inG_same {w : World} {Al : Option Addr} {cl : Nat} {Ar : Option Addr} {cr : Nat} {d d2 : Dsk} (hl : d2.lies = d.lies) (hr : d2.rows = d.rows) : InG w (.agg (dcells Al cl Ar cr d)) d (.agg (dcells Al cl Ar cr d2)) d2 := fun G h _ => by
  have h2 := hasG_at h
  exact ⟨Al, cl, Ar, cr, rfl, by rw [hl]; exact h2.1, by rw [hr]; exact h2.2⟩
theorem inG_cut {w : World} {Al : Option Addr} {cl : Nat} {Ar : Option Addr} {cr : Nat} {d d2 : Dsk} {A1 : Option Addr} {c1 : Nat} (hl : ∀ G : Nat → Prop, BlkG G Al d.lies → (∀ k, w.heap.size ≤ k → G k) → BlkG G A1 d2.lies) (hr : d2.rows = []) : InG w (.agg (dcells Al cl Ar cr d)) d (.agg (dcells A1 c1 none 0 d2)) d2 := fun G h hn =>
  ⟨A1, c1, none, 0, rfl, hl G (hasG_at h).1 hn, fun h9 => absurd hr h9⟩

theorem results_cell_row2 {P : Program} {fn : Func} {p u : Tmp} {ty : TypeId} (h : fn.results = #[.cell p ty, .tmp u]) (tmps : Array Value) (w : World) (g : Nat) (t : TypeId) (cs : Array Value) (fr : Nat × Nat) (d : TypeDesc)
    (hp : tmps.getD p undef = .pointer (some ⟨g, 0, none⟩)) (hg : w.heap[g]? = some (.cells cs t fr))
    (hu : P.underlying ty = some d) (hd : (match d with | .struct _ | .array _ _ => true | _ => false) = true) (hi : (P.info? ty).map (·.size) = some cs.size) :
    (results fn tmps).run P w = .ok (.tuple #[.agg cs, tmps.getD u undef]) w := by
  rw [results_cell_tmp h, hp]
  simp [asAddr, Result.andThen, run_loadVar_row w g t ty cs fr d hg hu hd hi]
theorem dk_size : (Try.prog.info? 35).map (·.size) = some 7 := by kernel_rfl
theorem dk_ret {fn : Func} {p u : Tmp} (h : fn.results = #[.cell p 35, .tmp u]) (tmps : Array Value) (w : World) (g : Nat) (Al : Option Addr) (cl : Nat) (Ar : Option Addr) (cr : Nat) (d : Dsk)
    (hp : tmps.getD p undef = .pointer (some ⟨g, 0, none⟩)) (hg : w.heap[g]? = some (.cells (dcells Al cl Ar cr d) 35)) : (results fn tmps).run Try.prog w = .ok (.tuple #[.agg (dcells Al cl Ar cr d), tmps.getD u undef]) w :=
  results_cell_row2 h tmps w g _ _ (0, 0) _ hp hg Try.underlying35 rfl dk_size

set_option maxHeartbeats 2000000 in
set_option maxRecDepth 100000 in
theorem call_none (w : World) (B : Nat) (v : Value) (d : Dsk) (h : DkV w B v d) (hB : B ≤ w.heap.size) (h0 : d.left = 0) :
    Calls Try.prog 35 #[v] w fun r w' => (∃ v', r = .returned (.tuple #[v', .bool false]) ∧ DkN w' B w.heap.size v' d ∧ InG w v d v' d) ∧ Below w.heap.size w w' := by
  obtain ⟨Al, cl, Ar, cr, rfl, hf, he⟩ := h
  obtain ⟨room, lies, rs, down, at_, keep, left⟩ := d
  simp only at hf he h0 ⊢
  subst h0
  have HX := Lib.hid (And.intro hf he)
  clear hf he
  go_enter Try.func35, Try.ntmps35
  go_wp2
  have hb : Below w.heap.size w ((w.alloc (.cells (dcells Al cl Ar cr ⟨room, lies, rs, down, at_, keep, 0⟩) 35)).alloc (.cells (dcells Al cl Ar cr ⟨room, lies, rs, down, at_, keep, 0⟩) 35)) := ((Below.refl _ w).alloc (Nat.le_refl _) _).alloc (by simp) _
  have hg : ((w.alloc (.cells (dcells Al cl Ar cr ⟨room, lies, rs, down, at_, keep, 0⟩) 35)).alloc (.cells (dcells Al cl Ar cr ⟨room, lies, rs, down, at_, keep, 0⟩) 35)).heap[w.heap.size + 1]? = some (.cells (dcells Al cl Ar cr ⟨room, lies, rs, down, at_, keep, 0⟩) 35) := by
    have h9 := heap_alloc_new (w.alloc (.cells (dcells Al cl Ar cr ⟨room, lies, rs, down, at_, keep, 0⟩) 35)) (.cells (dcells Al cl Ar cr ⟨room, lies, rs, down, at_, keep, 0⟩) 35)
    rwa [World.size_alloc] at h9
  refine bodyPost_ret (dk_ret Try.results35 _ _ (w.heap.size + 1) Al cl Ar cr ⟨room, lies, rs, down, at_, keep, 0⟩ rfl hg) rfl ⟨⟨_, rfl, ⟨Al, cl, Ar, cr, rfl, ?_, ?_, blk_recs HX.out.1, blk_recs HX.out.2⟩, inG_same (w := w) (Al := Al) (cl := cl) (Ar := Ar) (cr := cr) (d := ⟨room, lies, rs, down, at_, keep, 0⟩) (d2 := ⟨room, lies, rs, down, at_, keep, 0⟩) rfl rfl⟩, hb⟩
  · exact (HX.out.1.below (hb.mono hB)).mono (Nat.le_trans hB hb.size)
  · exact (HX.out.2.below (hb.mono hB)).mono (Nat.le_trans hB hb.size)

set_option maxHeartbeats 2000000 in
set_option maxRecDepth 100000 in
theorem call_more (w : World) (B : Nat) (v : Value) (d : Dsk) (h : DkV w B v d) (hB : B ≤ w.heap.size) (h0 : 1 < d.left) (hmx : d.left ≤ 9223372036854775807) :
    Calls Try.prog 35 #[v] w fun r w' => (∃ v', r = .returned (.tuple #[v', .bool false]) ∧ DkN w' B w.heap.size v' { d with left := d.left - 1 } ∧ InG w v d v' { d with left := d.left - 1 }) ∧ Below w.heap.size w w' := by
  obtain ⟨Al, cl, Ar, cr, rfl, hf, he⟩ := h
  obtain ⟨room, lies, rs, down, at_, keep, left⟩ := d
  simp only at hf he h0 hmx ⊢
  have hn0 : (left == 0) = false := by simp; omega
  have hwr : IntKind.i64.wrap (left - 1) = left - 1 := by rw [IntKind.wrap_i64]; omega
  have hgt : (0 : Int) < left - 1 := by omega
  have HX := Lib.hid (And.intro hf he)
  clear hf he
  obtain ⟨lf, hlf⟩ : ∃ lf, left - 1 = lf := ⟨_, rfl⟩
  rw [hlf] at hwr hgt
  rw [hlf]
  go_enter Try.func35, Try.ntmps35
  go_wp2
  have hb : Below w.heap.size w ((w.alloc (.cells (dcells Al cl Ar cr ⟨room, lies, rs, down, at_, keep, lf⟩) 35)).alloc (.cells (dcells Al cl Ar cr ⟨room, lies, rs, down, at_, keep, lf⟩) 35)) := ((Below.refl _ w).alloc (Nat.le_refl _) _).alloc (by simp) _
  have hg : ((w.alloc (.cells (dcells Al cl Ar cr ⟨room, lies, rs, down, at_, keep, lf⟩) 35)).alloc (.cells (dcells Al cl Ar cr ⟨room, lies, rs, down, at_, keep, lf⟩) 35)).heap[w.heap.size + 1]? = some (.cells (dcells Al cl Ar cr ⟨room, lies, rs, down, at_, keep, lf⟩) 35) := by
    have h9 := heap_alloc_new (w.alloc (.cells (dcells Al cl Ar cr ⟨room, lies, rs, down, at_, keep, lf⟩) 35)) (.cells (dcells Al cl Ar cr ⟨room, lies, rs, down, at_, keep, lf⟩) 35)
    rwa [World.size_alloc] at h9
  refine bodyPost_ret (dk_ret Try.results35 _ _ (w.heap.size + 1) Al cl Ar cr ⟨room, lies, rs, down, at_, keep, lf⟩ rfl hg) rfl ⟨⟨_, rfl, ⟨Al, cl, Ar, cr, rfl, ?_, ?_, blk_recs HX.out.1, blk_recs HX.out.2⟩, inG_same (w := w) (Al := Al) (cl := cl) (Ar := Ar) (cr := cr) (d := ⟨room, lies, rs, down, at_, keep, left⟩) (d2 := ⟨room, lies, rs, down, at_, keep, lf⟩) rfl rfl⟩, hb⟩
  · exact (HX.out.1.below (hb.mono hB)).mono (Nat.le_trans hB hb.size)
  · exact (HX.out.2.below (hb.mono hB)).mono (Nat.le_trans hB hb.size)

/-! ### cut -/
def keptB (keep : Int) (k : Nat) : Bool := bits .and .u64 (keep / 2 ^ k) 1 == 1
/-- what lies there, with those of the first n effects done that are kept -/
def keepF (l : List Fl) (rs : List Ef) (keep : Int) : Nat → List Fl
  | 0 => l
  | n + 1 => if keptB keep n = true then doneF (keepF l rs keep n) (rs.getD n default) else keepF l rs keep n
theorem keepF_len (l : List Fl) (rs : List Ef) (keep : Int) : ∀ n, (keepF l rs keep n).length ≤ l.length + n
  | 0 => by simp [keepF]
  | n + 1 => by
    have h := keepF_len l rs keep n
    unfold keepF
    split
    · exact Nat.le_trans (doneF_len _ _) (by omega)
    · omega
theorem cell_of_cells {w : World} {b t : Nat} {cs : Array Value} {fr : Nat × Nat} (h : w.heap[b]? = some (.cells cs t fr)) (i : Nat) : w.cell? ⟨b, i, none⟩ = cs[i]? := by simp [World.cell?, h]
theorem unfrozen_of_cells {w : World} {b t : Nat} {cs : Array Value} (h : w.heap[b]? = some (.cells cs t (0, 0))) (i : Nat) : w.frozen? ⟨b, i, none⟩ = false := by simp [World.frozen?, h]
theorem heap_setCell_cells {w : World} {b t : Nat} {cs : Array Value} {fr : Nat × Nat} (h : w.heap[b]? = some (.cells cs t fr)) (i : Nat) (u : Value) : (w.setCell ⟨b, i, none⟩ u).heap[b]? = some (.cells (cs.setIfInBounds i u) t fr) := by
  simp only [World.setCell, Array.getElem?_modify, h]
  simp
/-- blocks b and b + 1 may have turned -/
theorem fls_kept {w w' : World} {A : Option Addr} {l : List Fl} {b : Nat} (h : Fls w w.heap.size A l) (hne : Blk b (b + 2) A l) (hs : w.heap.size ≤ w'.heap.size) (hk : ∀ k, k < w.heap.size → k ≠ b → k ≠ b + 1 → w'.heap[k]? = w.heap[k]?) : Fls w' w'.heap.size A l := fun i hi => by
  obtain ⟨ad, e, hlt, hc⟩ := h i hi
  have hn : ad.block ≠ b ∧ ad.block ≠ b + 1 := by
    rcases hne (fun e => by rw [e] at hi; cases hi) ad e with h9 | h9
    · omega
    · omega
  refine ⟨ad, e, Nat.lt_of_lt_of_le hlt hs, fun j hj => ?_⟩
  rw [← hc j hj]
  exact World.cell?_of_block (w := w) (by rw [block_of_add, block_of_add]; exact hk _ hlt hn.1 hn.2)
def zeroD : Dsk := ⟨0, [], [], false, 0, 0, 0⟩

theorem st_size (w : World) (p : Addr) (u : Value) : (w.setCell p u).heap.size = w.heap.size := by simp [World.setCell]
theorem st_os (w : World) (p : Addr) (u : Value) : (w.setCell p u).os = w.os := rfl
theorem st_tape (w : World) (p : Addr) (u : Value) : (w.setCell p u).tape = w.tape := rfl
theorem st_out (w : World) (p : Addr) (u : Value) : (w.setCell p u).output = w.output := rfl
theorem seven_arr (cs : Array Value) (hc : cs.size = 7) (v0 v1 v2 v3 v4 v5 v6 : Value) : (((((((cs.setIfInBounds 0 v0).setIfInBounds 1 v1).setIfInBounds 2 v2).setIfInBounds 3 v3).setIfInBounds 4 v4).setIfInBounds 5 v5).setIfInBounds 6 v6) = #[v0, v1, v2, v3, v4, v5, v6] := by
  obtain ⟨l⟩ := cs
  match l, hc with
  | [a, b, c, d, e, f, g], _ => rfl
/-- a row of seven cells, written one by one -/
theorem seven {w : World} {b t : Nat} {cs : Array Value} (hc : cs.size = 7) (v0 v1 v2 v3 v4 v5 v6 : Value) (h : w.heap[b]? = some (.cells cs t (0, 0))) (W' : World)
    (hW : W' = ((((((w.setCell ⟨b, 0, none⟩ v0).setCell ⟨b, 1, none⟩ v1).setCell ⟨b, 2, none⟩ v2).setCell ⟨b, 3, none⟩ v3).setCell ⟨b, 4, none⟩ v4).setCell ⟨b, 5, none⟩ v5).setCell ⟨b, 6, none⟩ v6) :
    W'.heap[b]? = some (.cells #[v0, v1, v2, v3, v4, v5, v6] t (0, 0)) ∧ W'.heap.size = w.heap.size ∧ (∀ k, k ≠ b → W'.heap[k]? = w.heap[k]?) ∧ W'.os = w.os ∧ W'.tape = w.tape ∧ W'.output = w.output := by
  subst hW
  refine ⟨?_, by rw [st_size, st_size, st_size, st_size, st_size, st_size, st_size], fun k hk => ?_, by rw [st_os, st_os, st_os, st_os, st_os, st_os, st_os], by rw [st_tape, st_tape, st_tape, st_tape, st_tape, st_tape, st_tape], by rw [st_out, st_out, st_out, st_out, st_out, st_out, st_out]⟩
  · have e := heap_setCell_cells (heap_setCell_cells (heap_setCell_cells (heap_setCell_cells (heap_setCell_cells (heap_setCell_cells (heap_setCell_cells h 0 v0) 1 v1) 2 v2) 3 v3) 4 v4) 5 v5) 6 v6
    exact e.trans (congrArg (fun x => some (Obj.cells x t (0, 0))) (seven_arr cs hc v0 v1 v2 v3 v4 v5 v6))
  · have s1 : ∀ (W : World) (o : Nat) (u : Value), (W.setCell ⟨b, o, none⟩ u).heap[k]? = W.heap[k]? := fun W o u => Below.heap_setCell _ _ _ _ hk
    rw [s1, s1, s1, s1, s1, s1, s1]
theorem cut_end {w wr W1 W' : World} {b : Nat} {A1 : Option Addr} {c1 : Nat} {L : List Fl} {room at_ keep : Int} (hbw : w.heap.size = b) (hh1 : wr.heap[b + 1]? = some (.cells (dcells none 0 none 0 zeroD) 35)) (hfl : Fls wr wr.heap.size A1 L) (hne : Blk b (b + 2) A1 L) (hbl : Below w.heap.size w wr)
    (hW1 : W1 = (wr.setCell ⟨b, 2, none⟩ (.slice none 0 0)).setCell ⟨b, 3, none⟩ (.bool true))
    (hW : W' = ((((((W1.setCell ⟨b + 1, 0, none⟩ (.int .i64 room)).setCell ⟨b + 1, 1, none⟩ (.slice A1 L.length c1)).setCell ⟨b + 1, 2, none⟩ (.slice none 0 0)).setCell ⟨b + 1, 3, none⟩ (.bool true)).setCell ⟨b + 1, 4, none⟩ (.int .i64 at_)).setCell ⟨b + 1, 5, none⟩ (.int .u64 keep)).setCell ⟨b + 1, 6, none⟩ (.int .i64 0)) :
    W'.heap[b + 1]? = some (.cells (dcells A1 c1 none 0 ⟨room, L, [], true, at_, keep, 0⟩) 35) ∧ Below w.heap.size w W' ∧ Fls W' W'.heap.size A1 L := by
  have hs1 : W1.heap.size = wr.heap.size := by rw [hW1]; simp [World.setCell]
  have hk1 : ∀ k, k ≠ b → W1.heap[k]? = wr.heap[k]? := fun k hk => by rw [hW1, Below.heap_setCell _ _ _ _ hk, Below.heap_setCell _ _ _ _ hk]
  have ho : W1.os = wr.os ∧ W1.tape = wr.tape ∧ W1.output = wr.output := by rw [hW1]; exact ⟨rfl, rfl, rfl⟩
  obtain ⟨g1, g2, g3, g4, g5, g6⟩ := seven rfl _ _ _ _ _ _ _ ((hk1 (b + 1) (by omega)).trans hh1) W' hW
  have hk : ∀ k, k ≠ b → k ≠ b + 1 → W'.heap[k]? = wr.heap[k]? := fun k h1 h2 => (g3 k h2).trans (hk1 k h1)
  have hsz : W'.heap.size = wr.heap.size := g2.trans hs1
  exact ⟨g1, ⟨(g4.trans ho.1).trans hbl.os, (g5.trans ho.2.1).trans hbl.tape, (g6.trans ho.2.2).trans hbl.output, by rw [hsz]; exact hbl.size, fun k hk9 => (hk k (by omega) (by omega)).trans (hbl.block k hk9)⟩, fls_kept hfl hne (by rw [hsz]; exact Nat.le_refl _) (fun k _ h1 h2 => hk k h1 h2)⟩

set_option maxHeartbeats 4000000 in
set_option maxRecDepth 100000 in
theorem call_cut (w : World) (B : Nat) (v : Value) (d : Dsk) (h : DkV w B v d) (hB : B ≤ w.heap.size) (h0 : d.left = 1) (hl : d.lies.length + d.rows.length ≤ 3000) (hk0 : 0 ≤ d.keep) (hk1 : d.keep < 18446744073709551616) :
    Calls Try.prog 35 #[v] w fun r w' => (∃ v', r = .returned (.tuple #[v', .bool true]) ∧ DkN w' B w.heap.size v' { d with lies := keepF d.lies d.rows d.keep (min d.rows.length 64), rows := [], down := true, left := 0 } ∧ InG w v d v' { d with lies := keepF d.lies d.rows d.keep (min d.rows.length 64), rows := [], down := true, left := 0 }) ∧ Below w.heap.size w w' := by
  obtain ⟨Al, cl, Ar, cr, rfl, hf, he⟩ := h
  obtain ⟨room, lies, rs, down, at_, keep, left⟩ := d
  simp only at hf he h0 hl hk0 hk1 ⊢
  subst h0
  have HX := Lib.hid (And.intro hf he)
  clear hf he
  go_enter Try.func35, Try.ntmps35
  go_wp2
  have hb0 : Below w.heap.size w ((w.alloc (.cells (dcells Al cl Ar cr ⟨room, lies, rs, down, at_, keep, 0⟩) 35)).alloc (.cells (dcells none 0 none 0 zeroD) 35)) := ((Below.refl _ w).alloc (Nat.le_refl _) _).alloc (by simp) _
  have hg1 : ((w.alloc (.cells (dcells Al cl Ar cr ⟨room, lies, rs, down, at_, keep, 0⟩) 35)).alloc (.cells (dcells none 0 none 0 zeroD) 35)).heap[w.heap.size + 1]? = some (.cells (dcells none 0 none 0 zeroD) 35) := by
    have h9 := heap_alloc_new (w.alloc (.cells (dcells Al cl Ar cr ⟨room, lies, rs, down, at_, keep, 0⟩) 35)) (.cells (dcells none 0 none 0 zeroD) 35)
    rwa [World.size_alloc] at h9
  have hg0 : ((w.alloc (.cells (dcells Al cl Ar cr ⟨room, lies, rs, down, at_, keep, 0⟩) 35)).alloc (.cells (dcells none 0 none 0 zeroD) 35)).heap[w.heap.size]? = some (.cells (dcells Al cl Ar cr ⟨room, lies, rs, down, at_, keep, 0⟩) 35) := (Below.heap_alloc _ _ _ (by simp)).trans (heap_alloc_new w _)
  have hx0 : Fls ((w.alloc (.cells (dcells Al cl Ar cr ⟨room, lies, rs, down, at_, keep, 0⟩) 35)).alloc (.cells (dcells none 0 none 0 zeroD) 35)) B Al lies := HX.out.1.below (hb0.mono hB)
  have HS := Lib.hid (And.intro hb0 (And.intro hg0 (And.intro hg1 hx0)))
  clear hb0 hg0 hg1 hx0
  have HNE := Lib.hid (show Blk B (w.heap.size + 2) Al lies from blk_recs HX.out.1)
  go_loopg [4] rs.length (fun g i wr => ∃ (k : Nat) (A1 : Option Addr) (c1 : Nat), k ≤ min rs.length 64 ∧ g = rs.length - k ∧ i = .int .i64 k ∧ wr.heap[w.heap.size]? = some (.cells (dcells A1 c1 Ar cr ⟨room, keepF lies rs keep k, rs, down, at_, keep, 0⟩) 35) ∧ wr.heap[w.heap.size + 1]? = some (.cells (dcells none 0 none 0 zeroD) 35) ∧ Fls wr wr.heap.size A1 (keepF lies rs keep k) ∧ (Blk B (w.heap.size + 2) A1 (keepF lies rs keep k) ∧ ∀ G : Nat → Prop, BlkG G Al lies → (∀ k, w.heap.size ≤ k → G k) → BlkG G A1 (keepF lies rs keep k)) ∧ Below w.heap.size w wr)
  case atStart => exact ⟨0, Al, cl, Nat.zero_le _, rfl, rfl, HS.out.2.1, HS.out.2.2.1, HS.out.2.2.2.mono (Nat.le_trans hB HS.out.1.size), ⟨HNE.out, fun _ h _ => h⟩, HS.out.1⟩
  case round =>
    obtain ⟨k, A1, c1, hk, rfl, rfl, hh, hh1, hfl, hne, hbl⟩ := hrel
    have k2 : wr.cell? ⟨w.heap.size, 2, none⟩ = some (.slice Ar rs.length cr) := by rw [cell_of_cells hh]; rfl
    have k5 : wr.cell? ⟨w.heap.size, 5, none⟩ = some (.int .u64 keep) := by rw [cell_of_cells hh]; rfl
    have k1 : wr.cell? ⟨w.heap.size, 1, none⟩ = some (.slice A1 (keepF lies rs keep k).length c1) := by rw [cell_of_cells hh]; rfl
    have hz1 : w.heap.size + 1 < wr.heap.size := (Array.getElem?_eq_some_iff.1 hh1).1
    by_cases hlt : k < rs.length ∧ k < 64
    · have h1 : (k : Int) < rs.length := by omega
      have hc : (k : Int) < 64 := by omega
      have h0 : (0 : Int) ≤ k := by omega
      have hkl := keepF_len lies rs keep k
      by_cases hb : keptB keep k = true
      · have hbb : (bits .and .u64 (keep / 2 ^ k) 1 == 1) = true := hb
        have HS2 := Lib.hid (show keepF lies rs keep (k + 1) = doneF (keepF lies rs keep k) (rs.getD k default) from by rw [keepF, if_pos hb])
        obtain ⟨ad, rfl, hB1, hcc⟩ := (HX.out.2.below (hbl.mono hB)) k hlt.1
        have e0 : wr.cell? (ad.add (k * 3)) = some (.int .i64 (rs.getD k default).1) := hcc 0 (by omega)
        have e1 : wr.cell? ⟨(ad.add (k * 3)).block, (ad.add (k * 3)).off + 1, none⟩ = some (.string (rs.getD k default).2.1) := hcc 1 (by omega)
        have e2 : wr.cell? ⟨(ad.add (k * 3)).block, (ad.add (k * 3)).off + 2, none⟩ = some (.string (rs.getD k default).2.2) := hcc 2 (by omega)
        have HI := Lib.hid (And.intro hh (And.intro hh1 (And.intro hfl (And.intro hne hbl))))
        obtain ⟨L, hL⟩ : ∃ L, keepF lies rs keep k = L := ⟨_, rfl⟩
        rw [hL] at HI k1 HS2 hkl
        generalize rs.getD k default = x at *
        clear hb hcc hh hh1 hfl hne hbl hL
        go_wp2_with fail
        refine wp_region_seq (fun W => W.cell? ⟨w.heap.size, 2, none⟩ = some (.slice (some ad) rs.length cr) ∧ W.cell? (ad.add (k * 3)) = some (.int .i64 x.1) ∧ W.cell? ⟨(ad.add (k * 3)).block, (ad.add (k * 3)).off + 1, none⟩ = some (.string x.2.1) ∧ W.cell? ⟨(ad.add (k * 3)).block, (ad.add (k * 3)).off + 2, none⟩ = some (.string x.2.2))
          [(0, false, 0), (2, false, 1), (3, false, 5), (4, false, 13), (5, false, 29), (6, false, 61), (1, true, 125), (7, true, 127), (8, false, 255), (9, true, 511)]
          10 (by kernel_rfl) (by kernel_rfl) (by kernel_rfl) (fun d _ _ _ _ h => by cases d <;> exact h) (by kernel_rfl) (by kernel_rfl) ⟨by rw [World.cell?_drew]; exact k2, by rw [World.cell?_drew]; exact e0, by rw [World.cell?_drew]; exact e1, by rw [World.cell?_drew]; exact e2⟩ ?_
        have hbd : Below wr.heap.size wr wr.drew := (Below.refl _ wr).drew
        generalize wr.drew = w3 at *
        have hz3 := hbd.size
        have hblk : ∀ p : Addr, p.block < wr.heap.size → w3.cell? p = wr.cell? p := fun p hp => hbd.cell hp
        have HADR := Lib.hid (block_of_add ad (k * 3))
        have hB2 : ad.block < w.heap.size := Nat.lt_of_lt_of_le hB1 hB
        have m1 := (hblk ⟨w.heap.size, 1, none⟩ (by show w.heap.size < _; omega)).trans k1
        have m2 := (hblk ⟨w.heap.size, 2, none⟩ (by show w.heap.size < _; omega)).trans k2
        have n0 := (hblk (ad.add (k * 3)) (by rw [HADR.out]; omega)).trans e0
        have n1 := (hblk ⟨(ad.add (k * 3)).block, (ad.add (k * 3)).off + 1, none⟩ (by show (ad.add (k * 3)).block < _; rw [HADR.out]; omega)).trans e1
        have n2 := (hblk ⟨(ad.add (k * 3)).block, (ad.add (k * 3)).off + 2, none⟩ (by show (ad.add (k * 3)).block < _; rw [HADR.out]; omega)).trans e2
        have HI3 := Lib.hid (And.intro ((hbd.block _ (by omega)).trans HI.out.1) (And.intro ((hbd.block _ (by omega)).trans HI.out.2.1) (And.intro ((HI.out.2.2.1.below hbd).mono hz3) (And.intro HI.out.2.2.2.1 (HI.out.2.2.2.2.trans (hbd.mono HI.out.2.2.2.2.size))))))
        clear hbd hblk k1 k2 e0 e1 e2 HI k5
        refine seqH_take (.pointer (some ⟨w.heap.size, 1, none⟩)) rfl (Or.inl ⟨by rfl, fun W hW => by go_simp⟩) ?_
        go_simp
        refine seqH_take (.pointer (some ⟨w.heap.size, 2, none⟩)) rfl (Or.inl ⟨by rfl, fun W hW => by go_simp⟩) ?_
        go_simp
        refine seqH_take (.slice (some ad) rs.length cr) rfl (Or.inl ⟨by rfl, fun W hW => by have hcell := hW.1; clear hW; go_simp⟩) ?_
        go_simp
        refine seqH_take (.int .i64 k) rfl (Or.inl ⟨by rfl, fun W hW => by go_simp⟩) ?_
        go_simp
        refine seqH_take (.pointer (some (ad.add (k * 3)))) rfl (Or.inl ⟨by rfl, fun W hW => by go_simp⟩) ?_
        go_simp
        refine seqH_take (.agg #[.int .i64 x.1, .string x.2.1, .string x.2.2]) rfl (Or.inl ⟨by rfl, fun W hW => by have q0 := hW.2.1; have q1 := hW.2.2.1; have q2 := hW.2.2.2; clear hW; go_simp⟩) ?_
        go_simp
        refine seqH_call rfl (by rfl) (fun K hK => ?_)
        have HK := Lib.hid hK
        clear hK
        go_simp
        refine HK.out _ _ ⟨m2, n0, n1, n2⟩ ?_
        clear HK K
        go_simp
        refine seqH_call rfl (by rfl) (fun K hK => ?_)
        have HK := Lib.hid hK
        clear hK
        have HC := Lib.hid (done_any w3 w3.heap.size A1 c1 L x HI3.out.2.2.1 (Nat.le_refl _) (by omega))
        go_simp
        refine HC.out.mono ?_
        rintro r w6 ⟨⟨A6, c6, rfl, hf6, halt⟩, hb6⟩
        have hblk : ∀ p : Addr, p.block < w3.heap.size → w6.cell? p = w3.cell? p := fun p hp => hb6.cell hp
        have p2 := (hblk ⟨w.heap.size, 2, none⟩ (by show w.heap.size < _; omega)).trans m2
        have p0 := (hblk (ad.add (k * 3)) (by rw [HADR.out]; omega)).trans n0
        have p1 := (hblk ⟨(ad.add (k * 3)).block, (ad.add (k * 3)).off + 1, none⟩ (by show (ad.add (k * 3)).block < _; rw [HADR.out]; omega)).trans n1
        have p3 := (hblk ⟨(ad.add (k * 3)).block, (ad.add (k * 3)).off + 2, none⟩ (by show (ad.add (k * 3)).block < _; rw [HADR.out]; omega)).trans n2
        have p4 := (hblk ⟨w.heap.size, 1, none⟩ (by show w.heap.size < _; omega)).trans m1
        have hz6 := hb6.size
        have hd0 := (hb6.block w.heap.size (by omega)).trans HI3.out.1
        have hd1 := (hb6.block (w.heap.size + 1) (by omega)).trans HI3.out.2.1
        have hfz := unfrozen_of_cells hd0 1
        have hnew : Blk B (w.heap.size + 2) A6 (doneF L x) := blk_done HI3.out.2.2.2.1.1 halt (by omega)
        have hnewG : ∀ G : Nat → Prop, BlkG G Al lies → (∀ k, w.heap.size ≤ k → G k) → BlkG G A6 (doneF L x) := fun G h1 h2 hn ad ha => by
          rcases halt with ⟨e, e'⟩ | h9
          · rw [e'] at hn; rw [e] at ha; exact HI3.out.2.2.2.1.2 G h1 h2 hn ad ha
          · exact h2 _ (by have := h9 ad ha; omega)
        have hnew' : Blk w.heap.size (w.heap.size + 2) A6 (doneF L x) := fun hn ad ha => (hnew hn ad ha).imp (fun h9 => by omega) id
        have hbb6 := HI3.out.2.2.2.2.trans (hb6.mono HI3.out.2.2.2.2.size)
        refine HK.out _ _ ⟨p2, p0, p1, p3⟩ ?_
        clear HK K HC hblk halt hb6 HI3 m1 m2 n0 n1 n2
        go_simp
        refine seqH_take (.pointer (some ⟨w.heap.size, 1, none⟩)) rfl (Or.inl ⟨by rfl, fun W hW => by go_simp⟩) ?_
        go_simp
        refine seqH_call rfl (by rfl) (fun K hK => ?_)
        have HK := Lib.hid hK
        clear hK
        have hst := heap_setCell_cells hd0 1 (.slice A6 (doneF L x).length c6)
        have hs1 : (w6.setCell ⟨w.heap.size, 1, none⟩ (.slice A6 (doneF L x).length c6)).heap[w.heap.size + 1]? = _ := (Below.heap_setCell _ _ _ _ (by show w.heap.size + 1 ≠ w.heap.size; omega)).trans hd1
        have hkk : ∀ j, j ≠ w.heap.size → (w6.setCell ⟨w.heap.size, 1, none⟩ (.slice A6 (doneF L x).length c6)).heap[j]? = w6.heap[j]? := fun j hj => Below.heap_setCell _ _ _ _ hj
        have hzz : (w6.setCell ⟨w.heap.size, 1, none⟩ (.slice A6 (doneF L x).length c6)).heap.size = w6.heap.size := by simp [World.setCell]
        have hf7 : Fls (w6.setCell ⟨w.heap.size, 1, none⟩ (.slice A6 (doneF L x).length c6)) (w6.setCell ⟨w.heap.size, 1, none⟩ (.slice A6 (doneF L x).length c6)).heap.size A6 (doneF L x) := fls_kept hf6 hnew' (by rw [hzz]; exact Nat.le_refl _) (fun j _ h1 _ => hkk j h1)
        have hb7 : Below w.heap.size w (w6.setCell ⟨w.heap.size, 1, none⟩ (.slice A6 (doneF L x).length c6)) := ⟨hbb6.os, hbb6.tape, hbb6.output, by rw [hzz]; exact hbb6.size, fun j hj => (hkk j (by omega)).trans (hbb6.block j hj)⟩
        have hcc : ∀ p : Addr, p.block ≠ w.heap.size → (w6.setCell ⟨w.heap.size, 1, none⟩ (.slice A6 (doneF L x).length c6)).cell? p = w6.cell? p := fun p hp => World.cell?_of_block (w := w6) (hkk _ hp)
        have hq2 : (w6.setCell ⟨w.heap.size, 1, none⟩ (.slice A6 (doneF L x).length c6)).cell? ⟨w.heap.size, 2, none⟩ = some (.slice (some ad) rs.length cr) := by rw [cell_of_cells hst]; rfl
        have HSS := Lib.hid (And.intro hq2 (And.intro ((hcc (ad.add (k * 3)) (by rw [HADR.out]; omega)).trans p0) (And.intro ((hcc ⟨(ad.add (k * 3)).block, (ad.add (k * 3)).off + 1, none⟩ (by show (ad.add (k * 3)).block ≠ _; rw [HADR.out]; omega)).trans p1) ((hcc ⟨(ad.add (k * 3)).block, (ad.add (k * 3)).off + 2, none⟩ (by show (ad.add (k * 3)).block ≠ _; rw [HADR.out]; omega)).trans p3))))
        have HI7 := Lib.hid (And.intro hst (And.intro hs1 (And.intro hf7 (And.intro (And.intro hnew hnewG) hb7))))
        clear hst hs1 hkk hzz hf7 hb7 hcc hq2 hnew hnew' hnewG hbb6 hf6 hd0 hd1 p0 p1 p2 p3
        go_simp
        refine HK.out _ _ HSS.out ?_
        clear HK K HSS
        go_simp
        refine seqH_done ?_
        go_wp2
        go_roundg (rs.length - (k + 1))
        case rel => exact ⟨k + 1, A6, c6, by omega, rfl, by go_num, by rw [HS2.out]; exact HI7.out.1, HI7.out.2.1, by rw [HS2.out]; exact HI7.out.2.2.1, by rw [HS2.out]; exact HI7.out.2.2.2.1, HI7.out.2.2.2.2⟩
        case measure => omega
      · have hbb : (bits .and .u64 (keep / 2 ^ k) 1 == 1) = false := by simpa [keptB] using hb
        have HS2 := Lib.hid (show keepF lies rs keep (k + 1) = keepF lies rs keep k from by rw [keepF, if_neg hb])
        have HI := Lib.hid (And.intro hh (And.intro hh1 (And.intro hfl (And.intro hne hbl))))
        generalize keepF lies rs keep k = L at *
        clear hb hh hh1 hfl hne hbl
        go_wp2
        go_roundg (rs.length - (k + 1))
        case rel => exact ⟨k + 1, A1, c1, by omega, rfl, by go_num, by rw [HS2.out]; exact HI.out.1, HI.out.2.1, by rw [HS2.out]; exact HI.out.2.2.1, by rw [HS2.out]; exact HI.out.2.2.2.1, HI.out.2.2.2.2⟩
        case measure => omega
    · have hkm : k = min rs.length 64 := by omega
      have HKM := Lib.hid hkm
      have f0 := fun i => unfrozen_of_cells hh i
      have f1 := fun i => unfrozen_of_cells hh1 i
      have j0 : wr.cell? ⟨w.heap.size, 0, none⟩ = some (.int .i64 room) := by rw [cell_of_cells hh]; rfl
      have j3 : wr.cell? ⟨w.heap.size, 3, none⟩ = some (.bool down) := by rw [cell_of_cells hh]; rfl
      have j4 : wr.cell? ⟨w.heap.size, 4, none⟩ = some (.int .i64 at_) := by rw [cell_of_cells hh]; rfl
      have j6 : wr.cell? ⟨w.heap.size, 6, none⟩ = some (.int .i64 0) := by rw [cell_of_cells hh]; rfl
      have i0 : wr.cell? ⟨w.heap.size + 1, 0, none⟩ = some (.int .i64 0) := by rw [cell_of_cells hh1]; rfl
      have i1 : wr.cell? ⟨w.heap.size + 1, 1, none⟩ = some (.slice none 0 0) := by rw [cell_of_cells hh1]; rfl
      have i2 : wr.cell? ⟨w.heap.size + 1, 2, none⟩ = some (.slice none 0 0) := by rw [cell_of_cells hh1]; rfl
      have i3 : wr.cell? ⟨w.heap.size + 1, 3, none⟩ = some (.bool false) := by rw [cell_of_cells hh1]; rfl
      have i4 : wr.cell? ⟨w.heap.size + 1, 4, none⟩ = some (.int .i64 0) := by rw [cell_of_cells hh1]; rfl
      have i5 : wr.cell? ⟨w.heap.size + 1, 5, none⟩ = some (.int .u64 0) := by rw [cell_of_cells hh1]; rfl
      have i6 : wr.cell? ⟨w.heap.size + 1, 6, none⟩ = some (.int .i64 0) := by rw [cell_of_cells hh1]; rfl
      have HI := Lib.hid (And.intro hh (And.intro hh1 (And.intro hfl (And.intro hne hbl))))
      obtain ⟨L, hL⟩ : ∃ L, keepF lies rs keep k = L := ⟨_, rfl⟩
      rw [hL] at HI k1
      have HLK := Lib.hid hL
      clear hh hh1 hfl hne hbl hkm hL
      by_cases hr : k < rs.length
      · have h1 : (k : Int) < rs.length := by omega
        have hc : ¬ (k : Int) < 64 := by omega
        go_wp2
        obtain ⟨hE1, hE2, hE3⟩ := cut_end (w := w) (wr := wr) (b := w.heap.size) (A1 := A1) (c1 := c1) (L := L) (room := room) (at_ := at_) (keep := keep) rfl HI.out.2.1 HI.out.2.2.1 (fun hn ad ha => (HI.out.2.2.2.1.1 hn ad ha).imp (fun h9 => Nat.lt_of_lt_of_le h9 hB) id) HI.out.2.2.2.2 rfl rfl
        refine bodyPost_ret (dk_ret Try.results35 _ _ (w.heap.size + 1) A1 c1 none 0 ⟨room, L, [], true, at_, keep, 0⟩ rfl hE1) rfl ⟨⟨_, rfl, ⟨A1, c1, none, 0, ?_, ?_, recs_nil _ _ _, ?_, (fun hn => absurd rfl hn)⟩, ?_⟩, hE2⟩
        · rw [← HKM.out, HLK.out]; rfl
        · rw [← HKM.out, HLK.out]; exact hE3
        · rw [← HKM.out, HLK.out]; exact blk_mono HI.out.2.2.2.1.1 (by omega)
        · rw [← HKM.out, HLK.out]; exact inG_cut (d := ⟨room, lies, rs, down, at_, keep, 1⟩) (Al := Al) (cl := cl) (Ar := Ar) (cr := cr) HI.out.2.2.2.1.2 rfl
      · have h1 : ¬ (k : Int) < rs.length := by omega
        go_wp2
        obtain ⟨hE1, hE2, hE3⟩ := cut_end (w := w) (wr := wr) (b := w.heap.size) (A1 := A1) (c1 := c1) (L := L) (room := room) (at_ := at_) (keep := keep) rfl HI.out.2.1 HI.out.2.2.1 (fun hn ad ha => (HI.out.2.2.2.1.1 hn ad ha).imp (fun h9 => Nat.lt_of_lt_of_le h9 hB) id) HI.out.2.2.2.2 rfl rfl
        refine bodyPost_ret (dk_ret Try.results35 _ _ (w.heap.size + 1) A1 c1 none 0 ⟨room, L, [], true, at_, keep, 0⟩ rfl hE1) rfl ⟨⟨_, rfl, ⟨A1, c1, none, 0, ?_, ?_, recs_nil _ _ _, ?_, (fun hn => absurd rfl hn)⟩, ?_⟩, hE2⟩
        · rw [← HKM.out, HLK.out]; rfl
        · rw [← HKM.out, HLK.out]; exact hE3
        · rw [← HKM.out, HLK.out]; exact blk_mono HI.out.2.2.2.1.1 (by omega)
        · rw [← HKM.out, HLK.out]; exact inG_cut (d := ⟨room, lies, rs, down, at_, keep, 1⟩) (Al := Al) (cl := cl) (Ar := Ar) (cr := cr) HI.out.2.2.2.1.2 rfl

/-! ### as one -/
def callF (d : Dsk) : Dsk × Bool :=
  if d.left = 0 then (d, false) else if 1 < d.left then ({ d with left := d.left - 1 }, false)
  else ({ d with lies := keepF d.lies d.rows d.keep (min d.rows.length 64), rows := [], down := true, left := 0 }, true)
theorem call_any (w : World) (B : Nat) (v : Value) (d : Dsk) (h : DkV w B v d) (hB : B ≤ w.heap.size) (h0 : 0 ≤ d.left) (hmx : d.left ≤ 9223372036854775807) (hl : d.lies.length + d.rows.length ≤ 3000) (hk0 : 0 ≤ d.keep) (hk1 : d.keep < 18446744073709551616) :
    Calls Try.prog 35 #[v] w fun r w' => (∃ v', r = .returned (.tuple #[v', .bool (callF d).2]) ∧ DkN w' B w.heap.size v' (callF d).1 ∧ InG w v d v' (callF d).1) ∧ Below w.heap.size w w' := by
  unfold callF
  by_cases h1 : d.left = 0
  · rw [if_pos h1]; exact call_none w B v d h hB h1
  · rw [if_neg h1]
    by_cases h2 : 1 < d.left
    · rw [if_pos h2]; exact call_more w B v d h hB h2 hmx
    · rw [if_neg h2]; exact call_cut w B v d h hB (by omega) hl hk0 hk1
end Go.Proofs.Ytdgfbpkpfmdjjaa.Hk
