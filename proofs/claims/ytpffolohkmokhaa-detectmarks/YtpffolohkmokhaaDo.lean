/-
  The contract of the program's Marked (package detect).
-/
import Derived.Test.YtpffolohkmokhaaDn
namespace Go.Proofs.Ytpffolohkmokhaa.Hd
open Go.RowKit Hs Hp
set_option linter.unusedVariables false
attribute [local go_sem] t_and t_or t_xor t_not t_add t_sub t_add_wrap t_sub_wrap

theorem built32 : Try.prog.built 32 [] = some (ws []) := by kernel_rfl
theorem yields_eq_op {P : Program} {ops : Array Oper} {S : World → Prop} {o : Oper} {a : Act} (op : BinOp) (hop : op = .eql ∨ op = .neq) (ty ty' : TypeId) (x y : Operand) (ho : o.op = .binOp op ty x y ty') (hw : Region.wanted o (yielded ops a.tmps) = true)
    (X Y : Array Value) (hx : a.eval x = .agg X) (hy : a.eval y = .agg Y) (hg : P.eqGuardType P.depth ty = false) (b : Bool) (h : ∀ W, (binOp op ty (.agg X) (.agg Y)).run P W = .ok (.bool b) W) : YieldsIf P ops S o (.bool b) a :=
  .inl ⟨hw, fun W _ => run_eq_op op hop ty ty' x y ho X Y hx hy hg b W (h W)⟩
/-- what is loaded: the chain, the difference -/
structure Mq (w wr : World) (g : Nat) (c : Sh.Ch) (M : List UInt32) : Prop where
  below : Below w.heap.size w wr
  size : w.heap.size < wr.heap.size
  gsize : g < wr.heap.size
  ch : wr.heap[w.heap.size]? = some (.cells (cs c) 40 (0, 0))
  wd : wr.heap[g]? = some (.cells (ws M) 32 (0, 0))
section
variable {w wr w1 : World} {g : Nat} {c : Sh.Ch} {M : List UInt32}
theorem Mq.drew (h : Mq w wr g c M) : Mq w wr.drew g c M := ⟨h.below.drew, h.size, h.gsize, h.ch, h.wd⟩
theorem Mq.more (h : Mq w wr g c M) (hb : Below wr.heap.size wr w1) : Mq w w1 g c M :=
  ⟨h.below.trans (hb.mono h.below.size), Nat.lt_of_lt_of_le h.size hb.size, Nat.lt_of_lt_of_le h.gsize hb.size, by rw [hb.block _ h.size]; exact h.ch, by rw [hb.block _ h.gsize]; exact h.wd⟩
theorem Mq.start {v : Array Value} {T : TypeId} (c : Sh.Ch) (M : List UInt32) (hb : Below (w.heap.size + 1 + 1) ((w.alloc (.cells (cs c) 40)).alloc (.cells v T)) w1) :
    Mq w ((w1.alloc (.cells (ws []) 32)).setRow w1.heap.size (ws M)) w1.heap.size c M := by
  have hsz := hb.size
  simp at hsz
  have hbw : Below w.heap.size w w1 := Below.trans (((Below.refl _ w).alloc (Nat.le_refl _) _).alloc (by simp) _) (hb.mono (by omega))
  refine ⟨below_setRow (hbw.alloc hbw.size _) hbw.size _, by simp; omega, by simp, ?_, setRow_heap _ _ (ws []) _ _ _ (heap_alloc_new _ _)⟩
  rw [setRow_other _ _ _ _ (by omega), heap_alloc_old _ _ (by omega), hb.block _ (by omega), heap_alloc2_old]
end

set_option maxHeartbeats 4000000 in
set_option maxRecDepth 100000 in
theorem marked_any (c : Sh.Ch) (s : ByteArray) (ty K B : Int) (w : World) (hs : s.size ≤ 100000) :
    Calls Try.prog 13 #[.agg (cs c), .string s, .agg (vs ty K B)] w fun e w' => e = .returned (.bool (decide (Dv.ok ty K B) && Dv.marked c s.data.toList (Dv.diff ty K B))) ∧ Below w.heap.size w w' := by
  have hz := zv30
  have hm : Dv.marked c s.data.toList (Dv.diff ty K B) = Dv.hit (Sh.words s.data.toList) (Dv.fore (Sh.words s.data.toList) c 0 58) (Sh.press c s.data.toList) (Dv.diff ty K B) := rfl
  have HP := Lib.hid (fun W => pass_any c s W hs)
  have hdn := diff_nought ty K B
  have HDF := Lib.hid (fun W => difference_any ty K B W)
  generalize hM : Dv.diff ty K B = M at *
  clear hM
  rw [hm]
  clear hm
  generalize Sh.press c s.data.toList = E at *
  generalize Sh.words s.data.toList = L at *
  generalize Dv.fore L c 0 58 = S at *
  have HMK := Lib.hid (fun W => markedBy_any L M S E W)
  generalize Dv.hit L S E M = H at *
  have HNE := Lib.hid (fun W => neq_words M [] W)
  rw [hdn] at HNE
  clear hdn
  generalize decide (Dv.ok ty K B) = ok at *
  go_enter Try.func13, Try.ntmps13
  go_wp2_with (with_reducible refine wpList_load_row rfl 23 (.tmp 5) rfl (w.heap.size + 1) rfl 23 (vs ty K B) (0, 0) _ (heap_alloc2_new _ _ _) Try.underlying23 rfl (info23 _ _ _) ?_)
  refine (HDF.out _).mono ?_
  rintro e w1 ⟨rfl, hb1⟩
  have HST := Lib.hid (Mq.start c M (hb1.mono (by simp)))
  have HN := Lib.hid (heap_alloc_new w1 (.cells (ws []) 32))
  clear hb1 HDF
  go_wp2_with (with_reducible refine wpList_store_row rfl 32 (.tmp 7) (.tmp 9) rfl w1.heap.size (ws M) rfl rfl 32 (ws []) HN.out (info30' _) (ws_sizes _ _) (Hp.ws_one _) ?_)
  clear hz HN
  generalize (w1.alloc (.cells (ws []) 32)).setRow w1.heap.size (ws M) = w2 at *
  generalize w1.heap.size = g at *
  cases ok
  case true =>
    replace HNE : RowKit.Hid (∀ W, (binOp .neq 32 (.agg (ws M)) (.agg (ws []))).run Try.prog W = .ok (.bool true) W) := HNE
    refine wp_region_seq (fun W => Mq w W g c M) [(0, false, 0), (1, false, 1), (2, false, 3), (3, false, 7), (4, false, 15), (5, false, 31), (7, false, 63), (6, true, 191), (8, true, 255), (9, false, 511), (10, false, 1023)]
      11 (by kernel_rfl) (by kernel_rfl) (by kernel_rfl) (fun d _ _ _ _ h => by cases d <;> exact h) (by kernel_rfl) (by kernel_rfl) HST.out.drew ?_
    refine seqH_take (.agg (ws M)) rfl (yields_load 32 (.tmp 7) rfl (by rfl) g rfl 32 (ws M) (0, 0) _ (fun W hW => hW.wd) Try.underlying32 rfl (info30' _)) ?_
    go_simp
    refine seqH_take (.agg (ws [])) rfl (yields_build0 32 rfl (by rfl) (ws []) built32) ?_
    go_simp
    refine seqH_take (.bool true) rfl (yields_eq_op .neq (Or.inr rfl) 32 32 (.tmp 10) (.tmp 11) rfl (by rfl) (ws M) (ws []) rfl rfl guard32 true HNE.out) ?_
    go_simp
    refine seqH_take (.bool true) rfl (Or.inl ⟨by rfl, fun W _ => by go_simp⟩) ?_
    go_simp
    refine seqH_take (.agg (cs c)) rfl (yields_load 40 (.tmp 3) rfl (by rfl) w.heap.size rfl 40 (cs c) (0, 0) _ (fun W hW => hW.ch) Try.underlying40 rfl info28) ?_
    go_simp
    refine seqH_take (.string s) rfl (Or.inl ⟨by rfl, fun W _ => by go_simp⟩) ?_
    go_simp
    refine seqH_take (.agg (ws M)) rfl (yields_load 32 (.tmp 7) rfl (by rfl) g rfl 32 (ws M) (0, 0) _ (fun W hW => hW.wd) Try.underlying32 rfl (info30' _)) ?_
    go_simp
    have hpd := HST.out.drew
    refine seqH_call rfl (by rfl) (fun K hK => ?_)
    have HK := Lib.hid hK
    clear hK
    go_simp
    refine (HP.out _).mono ?_
    rintro e w3 ⟨rfl, hb3⟩
    have hp3 := hpd.more hb3
    clear hb3 hpd
    refine HK.out _ _ hp3 ?_
    clear HK K
    go_simp
    refine seqH_call rfl (by rfl) (fun K hK => ?_)
    have HK := Lib.hid hK
    clear hK
    go_simp
    refine (HMK.out _).mono ?_
    rintro e w4 ⟨rfl, hb4⟩
    have hp4 := hp3.more hb4
    clear hb4 hp3
    refine HK.out _ _ hp4 ?_
    clear HK K
    go_simp
    refine seqH_take (.bool H) rfl (Or.inl ⟨by rfl, fun W _ => by go_simp⟩) ?_
    go_simp
    refine seqH_take (.bool H) rfl (Or.inl ⟨by rfl, fun W _ => by go_simp⟩) ?_
    go_simp
    refine seqH_done ?_
    have HBL := Lib.hid hp4.below
    clear hp4 HST
    go_wp2
    go_ret
    refine ⟨?_, HBL.out⟩
    show Ending.returned (.bool H) = _
    rw [Bool.true_and]
  case false =>
    replace HNE : RowKit.Hid (∀ W, (binOp .neq 32 (.agg (ws M)) (.agg (ws []))).run Try.prog W = .ok (.bool false) W) := HNE
    refine wp_region_seq (fun W => Mq w W g c M) [(0, false, 0), (1, false, 1), (2, false, 3), (3, false, 7), (4, false, 15), (5, false, 31), (7, false, 63), (6, false, 191), (8, false, 255), (9, false, 511), (10, false, 1023)]
      11 (by kernel_rfl) (by kernel_rfl) (by kernel_rfl) (fun d _ _ _ _ h => by cases d <;> exact h) (by kernel_rfl) (by kernel_rfl) HST.out.drew ?_
    refine seqH_take (.agg (ws M)) rfl (yields_load 32 (.tmp 7) rfl (by rfl) g rfl 32 (ws M) (0, 0) _ (fun W hW => hW.wd) Try.underlying32 rfl (info30' _)) ?_
    go_simp
    refine seqH_take (.agg (ws [])) rfl (yields_build0 32 rfl (by rfl) (ws []) built32) ?_
    go_simp
    refine seqH_take (.bool false) rfl (yields_eq_op .neq (Or.inr rfl) 32 32 (.tmp 10) (.tmp 11) rfl (by rfl) (ws M) (ws []) rfl rfl guard32 false HNE.out) ?_
    go_simp
    refine seqH_take (.bool false) rfl (Or.inl ⟨by rfl, fun W _ => by go_simp⟩) ?_
    go_simp
    refine seqH_take undef rfl (Or.inr ⟨by rfl, rfl⟩) ?_
    go_simp
    refine seqH_take undef rfl (Or.inr ⟨by rfl, rfl⟩) ?_
    go_simp
    refine seqH_take undef rfl (Or.inr ⟨by rfl, rfl⟩) ?_
    go_simp
    refine seqH_take undef rfl (Or.inr ⟨by rfl, rfl⟩) ?_
    go_simp
    refine seqH_take undef rfl (Or.inr ⟨by rfl, rfl⟩) ?_
    go_simp
    refine seqH_take (.bool false) rfl (Or.inl ⟨by rfl, fun W _ => by go_simp⟩) ?_
    go_simp
    refine seqH_take (.bool false) rfl (Or.inl ⟨by rfl, fun W _ => by go_simp⟩) ?_
    go_simp
    refine seqH_done ?_
    have HBL := Lib.hid HST.out.drew.below
    clear HST
    go_wp2
    go_ret
    refine ⟨?_, HBL.out⟩
    show Ending.returned (.bool false) = _
    rw [Bool.false_and]
end Go.Proofs.Ytpffolohkmokhaa.Hd
