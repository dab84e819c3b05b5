/-
  Contracts of the program's pass and markedBy (package detect).
-/
import Derived.Test.YtpffolohkmokhaaDd
import Derived.Test.YtpffolohkmokhaaDu
import Derived.Test.YtpffolohkmokhaaHeld
namespace Go.Proofs.Ytpffolohkmokhaa.Hd
open Go.RowKit Hs Hp
set_option linter.unusedVariables false
attribute [local go_sem] t_and t_or t_xor t_not t_add t_sub t_add_wrap t_sub_wrap

/-- a passage as cells -/
def ps (W : List UInt32) (S E : Sh.Ch) : Array Value := ws W ++ cs S ++ cs E
theorem ps_size (W : List UInt32) (S E : Sh.Ch) : (ps W S E).size = 90 := by simp [ps, ws_size, cs]
theorem ps_sizes (W : List UInt32) (S E : Sh.Ch) (W' : List UInt32) (S' E' : Sh.Ch) : (ps W S E).size = (ps W' S' E').size := by rw [ps_size, ps_size]
theorem ps_one (W : List UInt32) (S E : Sh.Ch) : (ps W S E).all (·.oneCell') = true := by simp [ps, ws, cs, Value.oneCell']
theorem info60 (W : List UInt32) (S E : Sh.Ch) : (Try.prog.info? 60).map (·.size) = some (ps W S E).size := by
  have : (Try.prog.info? 60).map (·.size) = some 90 := by kernel_rfl
  rw [ps_size, this]
def z5 : Sh.Ch := ⟨0, 0, 0, 0, 0⟩
theorem zv60 (w : World) : (zeroValue 60).run Try.prog w = .ok (.agg (ps [] z5 z5)) w := by kernel_rfl
theorem built60 (W : List UInt32) (S E : Sh.Ch) : Try.prog.built 60 [(0, .agg (ws W)), (1, .agg (cs S)), (2, .agg (cs E))] = some (ps W S E) := by kernel_rfl
theorem ps_lo (W : List UInt32) (S E : Sh.Ch) (j : Nat) (v : Value) (h : (ws W)[j]? = some v) : (ps W S E)[0 + j]? = some v := by
  have hj : j < (ws W).size := (Array.getElem?_eq_some_iff.1 h).1
  rw [Nat.zero_add, ps, Array.append_assoc, Array.getElem?_append_left hj]; exact h
theorem ps_mid (W : List UInt32) (S E : Sh.Ch) (j : Nat) (v : Value) (h : (cs S)[j]? = some v) : (ps W S E)[80 + j]? = some v := by
  have hj : j < 5 := (Array.getElem?_eq_some_iff.1 h).1
  rw [ps, Array.getElem?_append_left (by simp [ws_size, cs]; omega), Array.getElem?_append_right (by rw [ws_size]; omega), ws_size, Nat.add_sub_cancel_left]; exact h
theorem ps_hi (W : List UInt32) (S E : Sh.Ch) (j : Nat) (v : Value) (h : (cs E)[j]? = some v) : (ps W S E)[85 + j]? = some v := by
  have hj : j < 5 := (Array.getElem?_eq_some_iff.1 h).1
  rw [ps, Array.getElem?_append_right (by simp [ws_size, cs]), show (ws W ++ cs S).size = 85 by simp [ws_size, cs], Nat.add_sub_cancel_left]; exact h
theorem load_words {w : World} {g : Nat} {W : List UInt32} {S E : Sh.Ch} (h : w.heap[g]? = some (.cells (ps W S E) 60 (0, 0))) : (loadVar 32 ⟨g, 0, none⟩).run Try.prog w = .ok (.agg (ws W)) w :=
  run_loadVar_sub w g 0 _ (ws W) _ (fun j v hv => by rw [cell_of_row w g _ _ _ _ h]; exact ps_lo W S E j v hv) Try.underlying32 rfl (info30' _)
theorem load_mid {w : World} {g : Nat} {W : List UInt32} {S E : Sh.Ch} (h : w.heap[g]? = some (.cells (ps W S E) 60 (0, 0))) : (loadVar 40 ⟨g, 80, none⟩).run Try.prog w = .ok (.agg (cs S)) w :=
  run_loadVar_sub w g 80 _ (cs S) _ (fun j v hv => by rw [cell_of_row w g _ _ _ _ h]; exact ps_mid W S E j v hv) Try.underlying40 rfl info28
theorem load_end {w : World} {g : Nat} {W : List UInt32} {S E : Sh.Ch} (h : w.heap[g]? = some (.cells (ps W S E) 60 (0, 0))) : (loadVar 40 ⟨g, 85, none⟩).run Try.prog w = .ok (.agg (cs E)) w :=
  run_loadVar_sub w g 85 _ (cs E) _ (fun j v hv => by rw [cell_of_row w g _ _ _ _ h]; exact ps_hi W S E j v hv) Try.underlying40 rfl info28

theorem back58 (x : Sh.Ch) (W : List UInt32) (w : World) : Calls Try.prog 43 #[.agg (cs x), .agg (ws W), .int .i64 58] w fun e w' => e = .returned (.agg (cs (Dv.rear W x 58 58))) ∧ Below w.heap.size w w' := dback_any x W 58 w (by omega)
theorem ahead58 (x : Sh.Ch) (W : List UInt32) (w : World) : Calls Try.prog 42 #[.agg (cs x), .agg (ws W), .int .i64 58, .int .i64 80] w fun e w' => e = .returned (.agg (cs (Dv.fore W x 58 22))) ∧ Below w.heap.size w w' := ahead_any x W 58 22 w (by omega)
theorem ahead0 (x : Sh.Ch) (W : List UInt32) (w : World) : Calls Try.prog 42 #[.agg (cs x), .agg (ws W), .int .i64 0, .int .i64 58] w fun e w' => e = .returned (.agg (cs (Dv.fore W x 0 58))) ∧ Below w.heap.size w w' := ahead_any x W 0 58 w (by omega)

theorem yields_build {P : Program} {ops : Array Oper} {S : World → Prop} {o : Oper} {a : Act} (t : TypeId) (parts : Array (Nat × Operand)) (ho : o.op = .build t parts) (hw : Region.wanted o (yielded ops a.tmps) = true) (cells : Array Value)
    (hc : P.built t (parts.map fun (i, x) => (i, a.eval x)).toList = some cells) : YieldsIf P ops S o (.agg cells) a :=
  .inl ⟨hw, fun W _ => by unfold execOp; simp only [ho, Sem.run_bind, run_build W t _ cells hc, Result.andThen_ok]; rfl⟩

theorem yields_build0 {P : Program} {ops : Array Oper} {S : World → Prop} {o : Oper} {a : Act} (t : TypeId) (ho : o.op = .build t #[]) (hw : Region.wanted o (yielded ops a.tmps) = true) (cells : Array Value)
    (hc : P.built t [] = some cells) : YieldsIf P ops S o (.agg cells) a := yields_build t #[] ho hw cells (by simpa using hc)
theorem yields_build3 {P : Program} {ops : Array Oper} {S : World → Prop} {o : Oper} {a : Act} (t : TypeId) (x y z : Operand) (ho : o.op = .build t #[(0, x), (1, y), (2, z)]) (hw : Region.wanted o (yielded ops a.tmps) = true) (cells : Array Value) (X Y Z : Value)
    (hx : a.eval x = X) (hy : a.eval y = Y) (hz : a.eval z = Z) (hc : P.built t [(0, X), (1, Y), (2, Z)] = some cells) : YieldsIf P ops S o (.agg cells) a := by
  subst hx hy hz
  exact yields_build t _ ho hw cells (by simpa using hc)

/-! ### pass -/
structure Pp (w wr : World) (g : Nat) (c : Sh.Ch) (L : List UInt32) : Prop where
  below : Below w.heap.size w wr
  lo : w.heap.size + 1 < g
  size : g < wr.heap.size
  ch : wr.heap[w.heap.size]? = some (.cells (cs c) 40 (0, 0))
  res : wr.heap[w.heap.size + 1]? = some (.cells (ps [] z5 z5) 60 (0, 0))
  wd : wr.heap[g]? = some (.cells (ws L) 32 (0, 0))
theorem Pp.drew {w wr : World} {g : Nat} {c : Sh.Ch} {L : List UInt32} (h : Pp w wr g c L) : Pp w wr.drew g c L := ⟨h.below.drew, h.lo, h.size, h.ch, h.res, h.wd⟩
theorem Pp.more {w wr w1 : World} {g : Nat} {c : Sh.Ch} {L : List UInt32} (h : Pp w wr g c L) (hb : Below wr.heap.size wr w1) : Pp w w1 g c L :=
  have hs := h.size
  have hl := h.lo
  ⟨h.below.trans (hb.mono h.below.size), hl, Nat.lt_of_lt_of_le hs hb.size, by rw [hb.block _ (by omega)]; exact h.ch, by rw [hb.block _ (by omega)]; exact h.res, by rw [hb.block _ hs]; exact h.wd⟩
/-- what is loaded -/
structure Pq (w wr : World) (g : Nat) (c : Sh.Ch) (L : List UInt32) : Prop where
  below : Below w.heap.size w wr
  ch : wr.heap[w.heap.size]? = some (.cells (cs c) 40 (0, 0))
  wd : wr.heap[g]? = some (.cells (ws L) 32 (0, 0))
theorem Pp.q {w wr : World} {g : Nat} {c : Sh.Ch} {L : List UInt32} (h : Pp w wr g c L) : Pq w wr g c L := ⟨h.below, h.ch, h.wd⟩
theorem Pp.put {w wr : World} {g : Nat} {c : Sh.Ch} {L : List UInt32} (h : Pp w wr g c L) (r : Array Value) : Pq w (wr.setRow (w.heap.size + 1) r) g c L :=
  have hl := h.lo
  ⟨below_setRow h.below (by omega) _, by rw [setRow_other _ _ _ _ (by omega)]; exact h.ch, by rw [setRow_other _ _ _ _ (by omega)]; exact h.wd⟩
theorem Pp.start {w w1 : World} (c : Sh.Ch) (L : List UInt32) (hb : Below (w.heap.size + 1 + 1) ((w.alloc (.cells (cs c) 40)).alloc (.cells (ps [] z5 z5) 60)) w1) :
    Pp w ((w1.alloc (.cells (ws []) 32)).setRow w1.heap.size (ws L)) w1.heap.size c L := by
  have hsz := hb.size
  simp at hsz
  have hbw : Below w.heap.size w w1 := Below.trans (((Below.refl _ w).alloc (Nat.le_refl _) _).alloc (by simp) _) (hb.mono (by omega))
  refine ⟨below_setRow (hbw.alloc hbw.size _) hbw.size _, by omega, by simp, ?_, ?_, setRow_heap _ _ (ws []) _ _ _ (heap_alloc_new _ _)⟩
  · rw [setRow_other _ _ _ _ (by omega), heap_alloc_old _ _ (by omega), hb.block _ (by omega), heap_alloc2_old]
  · rw [setRow_other _ _ _ _ (by omega), heap_alloc_old _ _ (by omega), hb.block _ (by omega), heap_alloc2_new]

set_option maxHeartbeats 4000000 in
set_option maxRecDepth 100000 in
theorem pass_any (c : Sh.Ch) (s : ByteArray) (w : World) (hs : s.size ≤ 100000) :
    Calls Try.prog 30 #[.agg (cs c), .string s] w fun e w' => e = .returned (.agg (ps (Sh.words s.data.toList) (Dv.fore (Sh.words s.data.toList) c 0 58) (Sh.press c s.data.toList))) ∧ Below w.heap.size w w' := by
  have hz := zv30
  have hz6 := zv60
  have HP := Lib.hid (fun W => press_any c s W hs)
  generalize Sh.press c s.data.toList = E at *
  have HX := Lib.hid (fun W => expand_any s W hs)
  generalize Sh.words s.data.toList = L at *
  have HA := Lib.hid (fun W => ahead0 c L W)
  generalize Dv.fore L c 0 58 = S at *
  have HB := Lib.hid (built60 L S E)
  go_enter Try.func30, Try.ntmps30
  go_wp2_with fail
  refine (HX.out _).mono ?_
  rintro e w1 ⟨rfl, hb1⟩
  have hst := Pp.start c L (hb1.mono (by simp))
  have HN := Lib.hid (heap_alloc_new w1 (.cells (ws []) 32))
  have HST := Lib.hid hst
  clear hst hb1 HX
  go_wp2_with (with_reducible refine wpList_store_row rfl 32 (.tmp 5) (.tmp 7) rfl w1.heap.size (ws L) rfl rfl 32 (ws []) HN.out (info30' _) (ws_sizes _ _) (Hp.ws_one _) ?_)
  clear hz hz6 HN
  generalize (w1.alloc (.cells (ws []) 32)).setRow w1.heap.size (ws L) = w2 at *
  generalize w1.heap.size = g at *
  refine wp_region_seq (fun W => Pq w W g c L) [(0, false, 0), (1, false, 1), (2, false, 3), (4, false, 7), (5, false, 23), (3, true, 55), (6, true, 63), (7, false, 127), (8, true, 255)]
    9 (by kernel_rfl) (by kernel_rfl) (by kernel_rfl) (fun d _ _ _ _ h => by cases d <;> exact h) (by kernel_rfl) (by kernel_rfl) HST.out.drew.q ?_
  refine seqH_take (.agg (ws L)) rfl (yields_load 32 (.tmp 5) rfl (by rfl) g rfl 32 (ws L) (0, 0) _ (fun W hW => hW.wd) Try.underlying32 rfl (info30' _)) ?_
  go_simp
  refine seqH_take (.agg (cs c)) rfl (yields_load 40 (.tmp 2) rfl (by rfl) w.heap.size rfl 40 (cs c) (0, 0) _ (fun W hW => hW.ch) Try.underlying40 rfl info28) ?_
  go_simp
  refine seqH_take (.agg (ws L)) rfl (yields_load 32 (.tmp 5) rfl (by rfl) g rfl 32 (ws L) (0, 0) _ (fun W hW => hW.wd) Try.underlying32 rfl (info30' _)) ?_
  go_simp
  refine seqH_take (.agg (cs c)) rfl (yields_load 40 (.tmp 2) rfl (by rfl) w.heap.size rfl 40 (cs c) (0, 0) _ (fun W hW => hW.ch) Try.underlying40 rfl info28) ?_
  go_simp
  refine seqH_take (.string s) rfl (Or.inl ⟨by rfl, fun W _ => by go_simp⟩) ?_
  go_simp
  have hpd := HST.out.drew
  refine seqH_call rfl (by rfl) (fun K hK => ?_)
  have HK := Lib.hid hK
  clear hK
  go_simp
  refine (HA.out _).mono ?_
  rintro e w3 ⟨rfl, hb3⟩
  have hp3 := hpd.more hb3
  clear hb3 hpd
  refine HK.out _ _ hp3.q ?_
  clear HK K
  go_simp
  refine seqH_call rfl (by rfl) (fun K hK => ?_)
  have HK := Lib.hid hK
  clear hK
  go_simp
  refine (HP.out _).mono ?_
  rintro e w4 ⟨rfl, hb4⟩
  have hp4 := hp3.more hb4
  clear hb4 hp3
  refine HK.out _ _ hp4.q ?_
  clear HK K
  go_simp
  refine seqH_take (.agg (ps L S E)) rfl (yields_build3 60 (.tmp 8) (.tmp 11) (.tmp 14) rfl (by rfl) (ps L S E) _ _ _ rfl rfl rfl HB.out) ?_
  go_simp
  refine seqH_call rfl (by rfl) (fun K hK => ?_)
  have HK := Lib.hid hK
  clear hK
  refine wp_store_row 60 (.tmp 4) (.tmp 15) rfl (w.heap.size + 1) (ps L S E) rfl rfl 60 (ps [] z5 z5) hp4.res (info60 _ _ _) (ps_sizes _ _ _ _ _ _) (ps_one _ _ _) ?_
  refine HK.out _ _ (hp4.put _) ?_
  clear HK K
  go_simp
  refine seqH_done ?_
  have HZ := Lib.hid hp4.res
  have HBL := Lib.hid hp4.below
  clear hp4 HST
  go_wp2
  refine bodyPost_ret (results_cell_row Try.results30 _ _ (w.heap.size + 1) 60 (ps L S E) (0, 0) _ rfl (setRow_heap _ _ _ _ _ _ HZ.out) Try.underlying60 rfl (info60 _ _ _)) rfl ⟨rfl, ?_⟩
  exact below_setRow HBL.out (by omega) _
end Go.Proofs.Ytpffolohkmokhaa.Hd
