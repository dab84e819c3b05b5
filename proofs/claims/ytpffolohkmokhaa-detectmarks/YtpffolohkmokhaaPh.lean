/-
  Contracts of the program's (*State).Sum and Sum (package sha1).
-/
import Derived.Test.YtpffolohkmokhaaPg
namespace Go.Proofs.Ytpffolohkmokhaa.Hp
open Go.RowKit Hs
set_option linter.unusedVariables false

theorem noughts_int (n : Nat) (w : World) (hn : n ≤ 20000000) :
    Calls Try.prog 47 #[.int .u64 ((n : Int) + 1)] w fun e w' => e = .returned (.string ⟨(List.replicate (Sh.nought n) (0 : UInt8)).toArray⟩) ∧ Below w.heap.size w w' := noughts_any n w hn
theorem length_int (n : Nat) (w : World) (hn : n ≤ 20000000) :
    Calls Try.prog 48 #[.int .u64 ((n : Int) * 8)] w fun e w' => e = .returned (.string ⟨(Sh.highs (n * 8) 8).toArray⟩) ∧ Below w.heap.size w w' := length_any (n * 8) w (by omega)
theorem fill_flat (l : List UInt8) : l ++ (bls [⟨#[128]⟩, ⟨(List.replicate (Sh.nought l.length) (0 : UInt8)).toArray⟩, ⟨(Sh.highs (l.length * 8) 8).toArray⟩]).flatten = Sh.fill l := by
  simp [bls, bl, Sh.fill, Sh.pad]
theorem strs3 (w : World) (x y z : ByteArray) : Strs (w.alloc (.cells #[.string x, .string y, .string z] 9)) (w.heap.size + 1) (some ⟨w.heap.size, 0, none⟩) [x, y, z] := fun i hi => by
  have hh := heap_alloc_new w (.cells #[.string x, .string y, .string z] 9)
  refine ⟨_, rfl, by simp, ?_⟩
  rw [add_zero_of, cell_of_row _ _ i _ _ _ hh]
  simp at hi
  rcases (by omega : i = 0 ∨ i = 1 ∨ i = 2) with rfl | rfl | rfl <;> simp
theorem u64_wrap (x : Int) : IntKind.u64.wrap x = x % 18446744073709551616 := by simp [IntKind.wrap, IntKind.bits, IntKind.signed]
theorem own_make (w : World) (n : Nat) (hn : n ≤ 1000) : (w.alloc (.cells (Array.replicate n (.int .u8 0)) 5)).ownsRow w.heap.size 5 1 (.slice (some ⟨w.heap.size, 0, none⟩) 0 n) 0 [] :=
  ⟨rfl, .inr ⟨w.heap.size, n, _, rfl, Nat.le_refl _, heap_alloc_new w _, Nat.zero_le _, by unfold maxLen; omega, by simp, by simp⟩⟩
theorem cs_get (x : Sh.Ch) (k : Nat) (h : k < 5) : (cs x)[k]? = some (.int .u32 (tn (fld x k))) := cs_fld x k h
theorem own_lower {w : World} {base B : Nat} {e : TypeId} {sz n : Nat} {v : Value} {xs : List Value} (h : w.ownsRow base e sz v n xs) (hB : B ≤ base) : w.ownsRow B e sz v n xs := by
  refine ⟨h.1, ?_⟩
  rcases h.2 with h2 | ⟨g, cap, cur, h1, h2, h3⟩
  · exact .inl h2
  · exact .inr ⟨g, cap, cur, h1, Nat.le_trans hB h2, h3⟩
theorem wpList_load_chain {ops : Array Oper} {rest : List Oper} {o : Oper} {a : Act} {w : World} {Q : Exit → Act → World → Prop} (hgd : o.guard = none) (x : Operand) (ho : o.op = .load 40 x) (b : Nat) (hx : a.eval x = .pointer (some ⟨b, 0, none⟩))
    (X : Sh.Ch) (r : List UInt8) (n : Nat) (hg : w.heap[b]? = some (.cells (sts X r n) 81 (0, 0))) (h : wpList Try.prog ops Q rest (a.put o.dst (.agg (cs X))) w) : wpList Try.prog ops Q (o :: rest) a w :=
  wpList_plain hgd fun _ hK => wp_load_chain x ho b hx X r n hg (hK _ _ h)

set_option maxHeartbeats 2000000 in
set_option maxRecDepth 100000 in
theorem ssum_any (w : World) (b : Nat) (l : List UInt8) (h : St w b l) (hs : l.length ≤ 1000000) :
    Calls Try.prog 38 #[.pointer (some ⟨b, 0, none⟩)] w fun e w' => e = .returned (.string ⟨(Sh.sum l).toArray⟩) ∧ Below w.heap.size w w' := by
  obtain ⟨i0, hi0, hz0, hz1, hz2⟩ := info_parts info5
  have HI := Lib.hid (And.intro hi0 (And.intro hz0 (And.intro hz1 hz2)))
  clear hi0 hz0 hz1 hz2
  have hlt := h.lt
  have hcopy := copy_any w b l h
  have hct : w.cell? ⟨b, 69, none⟩ = some (.int .u64 l.length) := by
    obtain ⟨r, hr, _, hg⟩ := h
    rw [cell_of_row _ _ 69 _ _ _ hg, sts_told _ _ _ hr]
  go_enter Try.func38, Try.ntmps38
  go_wp2_with fail
  refine hcopy.mono ?_
  rintro e1 w1 ⟨rfl, hst1, hb1⟩
  have hsz1 := hb1.size
  have hblt : b < w1.heap.size := by omega
  have hct1 : w1.cell? ⟨b, 69, none⟩ = some (.int .u64 l.length) := by rw [hb1.cell (p := ⟨b, 69, none⟩) hlt]; exact hct
  have hwr : ∀ w3 w4 : World, Below w1.heap.size w1.drew w3 → Below w3.heap.size w3 w4 →
      Calls Try.prog 37 #[.pointer (some ⟨w.heap.size, 0, none⟩), .slice (some ⟨w4.heap.size, 0, none⟩) 3 3] (w4.alloc (.cells #[.string ⟨#[128]⟩, .string ⟨(List.replicate (Sh.nought l.length) (0 : UInt8)).toArray⟩, .string ⟨(Sh.highs (l.length * 8) 8).toArray⟩] 9))
        fun e w' => e = .returned (.tuple #[]) ∧ St w' w.heap.size (Sh.fill l) ∧ Below w.heap.size w w' := fun w3 w4 hb3 hb4 => by
    have hel : w.heap.size < w1.heap.size := hst1.lt
    have h34 : w1.heap.size ≤ w4.heap.size := Nat.le_trans hb3.size hb4.size
    have hst4 : St w4 w.heap.size l := by
      have hst1' : St w1.drew w.heap.size l := hst1
      exact (hst1'.below hb3 hel).below hb4 (Nat.lt_of_lt_of_le hel hb3.size)
    have hbw : Below w.heap.size w w4 := (hb1.drew.trans (hb3.mono hsz1)).trans (hb4.mono (Nat.le_trans hsz1 hb3.size))
    have hh := write_any (w4.alloc (.cells #[.string ⟨#[128]⟩, .string ⟨(List.replicate (Sh.nought l.length) (0 : UInt8)).toArray⟩, .string ⟨(Sh.highs (l.length * 8) 8).toArray⟩] 9)) w.heap.size l _ _ 3 _
      (hst4.below ((Below.refl _ w4).alloc (Nat.le_refl _) _) hst4.lt) (strs3 w4 ⟨#[128]⟩ ⟨(List.replicate (Sh.nought l.length) (0 : UInt8)).toArray⟩ ⟨(Sh.highs (l.length * 8) 8).toArray⟩)
      (fun _ ad e => by injection e with e; subst e; show w4.heap.size ≠ _; omega)
      (by rw [← List.length_append, fill_flat, Sh.fill, List.length_append, Sh.pad_length, Sh.highs_length]; have : Sh.nought l.length < 64 := Nat.mod_lt _ (by omega); omega) (by simp)
    rw [fill_flat] at hh
    refine hh.mono ?_
    rintro e5 w5 ⟨rfl, h5, hg5⟩
    exact ⟨rfl, h5, (hbw.alloc hbw.size _).grown hg5 (by simp; omega) (fun k hk => by injection hk with hk; omega)⟩
  have hsum : Sh.sum l = Sh.told (Sh.chain (Sh.fill l) ((Sh.fill l).length / 64)) 5 := rfl
  generalize hn : l.length = n at *
  have HWR := Lib.hid hwr
  have CT := Lib.hid hct1
  have HST1 := Lib.hid hst1
  have HB1 := Lib.hid hb1
  have HSUM := Lib.hid hsum
  clear hwr hst1 hb1 hcopy hct h hn hsum
  have wu1 : IntKind.u64.wrap ((n : Int) + 1) = (n : Int) + 1 := by rw [u64_wrap]; omega
  have wu8 : IntKind.u64.wrap ((n : Int) * 8) = (n : Int) * 8 := by rw [u64_wrap]; omega
  go_upto_region 2 with fail
  go_cut [] (fun wx => St wx w.heap.size (Sh.fill l) ∧ Below w.heap.size w wx)
  case first =>
      refine wp_region_any (by kernel_rfl) ?_
      change wpAny _ _ _ _ _ _ _ (World.drew _)
      refine wpAny_take (i := 0) (v := .pointer (some ⟨w.heap.size, 0, none⟩)) rfl (by kernel_rfl) (by kernel_rfl) (by kernel_rfl) (fun _ _ _ h => h) (Or.inl ⟨by rfl, fun w => by go_simp⟩) ?_
      go_simp
      refine wpAny_take (i := 1) (v := .pointer (some ⟨b, 0, none⟩)) rfl (by kernel_rfl) (by kernel_rfl) (by kernel_rfl) (fun _ _ _ h => h) (Or.inl ⟨by rfl, fun w => by go_simp⟩) ?_
      go_simp
      refine wpAny_take (i := 2) (v := .pointer (some ⟨b, 0, none⟩)) rfl (by kernel_rfl) (by kernel_rfl) (by kernel_rfl) (fun _ _ _ h => h) (Or.inl ⟨by rfl, fun w => by go_simp⟩) ?_
      go_simp
      refine wpAny_take (i := 3) (v := .pointer (some ⟨b, 69, none⟩)) rfl (by kernel_rfl) (by kernel_rfl) (by kernel_rfl) (fun _ _ _ h => h) (Or.inl ⟨by rfl, fun w => by go_simp⟩) ?_
      go_simp
      refine wpAny_take (i := 7) (v := .pointer (some ⟨b, 0, none⟩)) rfl (by kernel_rfl) (by kernel_rfl) (by kernel_rfl) (fun _ _ _ h => h) (Or.inl ⟨by rfl, fun w => by go_simp⟩) ?_
      go_simp
      refine wpAny_take (i := 8) (v := .pointer (some ⟨b, 0, none⟩)) rfl (by kernel_rfl) (by kernel_rfl) (by kernel_rfl) (fun _ _ _ h => h) (Or.inl ⟨by rfl, fun w => by go_simp⟩) ?_
      go_simp
      refine wpAny_take (i := 9) (v := .pointer (some ⟨b, 69, none⟩)) rfl (by kernel_rfl) (by kernel_rfl) (by kernel_rfl) (fun _ _ _ h => h) (Or.inl ⟨by rfl, fun w => by go_simp⟩) ?_
      go_simp
      refine wpAny_ready (rs := [4, 10]) (by kernel_rfl) (by simp) ?_
      refine AllReady.cons rfl (fun K hK => ?_) (AllReady.cons rfl (fun K hK => ?_) AllReady.nil)
      · go_simp
        refine hK _ _ ?_
        clear hK K
        refine wpAny_take (i := 5) (v := .int .u64 ((n : Int) + 1)) rfl (by kernel_rfl) (by kernel_rfl) (by kernel_rfl) (fun _ _ _ h => h) (Or.inl ⟨by rfl, fun w => by go_simp⟩) ?_
        go_simp
        refine wpAny_ready (rs := [6, 10]) (by kernel_rfl) (by simp) ?_
        refine AllReady.cons rfl (fun K hK => ?_) (AllReady.cons rfl (fun K hK => ?_) AllReady.nil)
        · go_simp
          refine (noughts_int n _ (by omega)).mono ?_
          rintro e3 w3 ⟨rfl, hb3⟩
          refine hK _ _ ?_
          clear hK K
          have ct3 : w3.cell? ⟨b, 69, none⟩ = some (.int .u64 n) := by rw [hb3.cell (p := ⟨b, 69, none⟩) hblt]; exact CT.out
          refine wpAny_ready (rs := [10]) (by kernel_rfl) (by simp) ?_
          refine AllReady.cons rfl (fun K hK => ?_) AllReady.nil
          go_simp
          refine hK _ _ ?_
          clear hK K
          refine wpAny_take (i := 11) (v := .int .u64 ((n : Int) * 8)) rfl (by kernel_rfl) (by kernel_rfl) (by kernel_rfl) (fun _ _ _ h => h) (Or.inl ⟨by rfl, fun w => by go_simp⟩) ?_
          go_simp
          refine wpAny_ready (rs := [12]) (by kernel_rfl) (by simp) ?_
          refine AllReady.cons rfl (fun K hK => ?_) AllReady.nil
          go_simp
          refine (length_int n _ (by omega)).mono ?_
          rintro e4 w4 ⟨rfl, hb4⟩
          refine hK _ _ ?_
          clear hK K
          refine wpAny_ready (rs := [13]) (by kernel_rfl) (by simp) ?_
          refine AllReady.cons rfl (fun K hK => ?_) AllReady.nil
          go_simp
          refine hK _ _ ?_
          clear hK K
          refine wpAny_ready (rs := [14]) (by kernel_rfl) (by simp) ?_
          refine AllReady.cons rfl (fun K hK => ?_) AllReady.nil
          go_simp
          refine (HWR.out w3 w4 hb3 hb4).mono ?_
          rintro e5 w5 ⟨rfl, hst5, hbl5⟩
          refine hK _ _ ?_
          clear hK K
          refine wpAny_done (by kernel_rfl) ?_ _
          go_wp2_with fail
          go_meet
          exact ⟨hst5, hbl5⟩
        · go_simp
          refine hK _ _ ?_
          clear hK K
          refine wpAny_take (i := 11) (v := .int .u64 ((n : Int) * 8)) rfl (by kernel_rfl) (by kernel_rfl) (by kernel_rfl) (fun _ _ _ h => h) (Or.inl ⟨by rfl, fun w => by go_simp⟩) ?_
          go_simp
          refine wpAny_ready (rs := [6]) (by kernel_rfl) (by simp) ?_
          refine AllReady.cons rfl (fun K hK => ?_) AllReady.nil
          go_simp
          refine (noughts_int n _ (by omega)).mono ?_
          rintro e3 w3 ⟨rfl, hb3⟩
          refine hK _ _ ?_
          clear hK K
          refine wpAny_ready (rs := [12]) (by kernel_rfl) (by simp) ?_
          refine AllReady.cons rfl (fun K hK => ?_) AllReady.nil
          go_simp
          refine (length_int n _ (by omega)).mono ?_
          rintro e4 w4 ⟨rfl, hb4⟩
          refine hK _ _ ?_
          clear hK K
          refine wpAny_ready (rs := [13]) (by kernel_rfl) (by simp) ?_
          refine AllReady.cons rfl (fun K hK => ?_) AllReady.nil
          go_simp
          refine hK _ _ ?_
          clear hK K
          refine wpAny_ready (rs := [14]) (by kernel_rfl) (by simp) ?_
          refine AllReady.cons rfl (fun K hK => ?_) AllReady.nil
          go_simp
          refine (HWR.out w3 w4 hb3 hb4).mono ?_
          rintro e5 w5 ⟨rfl, hst5, hbl5⟩
          refine hK _ _ ?_
          clear hK K
          refine wpAny_done (by kernel_rfl) ?_ _
          go_wp2_with fail
          go_meet
          exact ⟨hst5, hbl5⟩
      · go_simp
        refine hK _ _ ?_
        clear hK K
        refine wpAny_take (i := 11) (v := .int .u64 ((n : Int) * 8)) rfl (by kernel_rfl) (by kernel_rfl) (by kernel_rfl) (fun _ _ _ h => h) (Or.inl ⟨by rfl, fun w => by go_simp⟩) ?_
        go_simp
        refine wpAny_ready (rs := [4]) (by kernel_rfl) (by simp) ?_
        refine AllReady.cons rfl (fun K hK => ?_) AllReady.nil
        go_simp
        refine hK _ _ ?_
        clear hK K
        refine wpAny_take (i := 5) (v := .int .u64 ((n : Int) + 1)) rfl (by kernel_rfl) (by kernel_rfl) (by kernel_rfl) (fun _ _ _ h => h) (Or.inl ⟨by rfl, fun w => by go_simp⟩) ?_
        go_simp
        refine wpAny_ready (rs := [6]) (by kernel_rfl) (by simp) ?_
        refine AllReady.cons rfl (fun K hK => ?_) AllReady.nil
        go_simp
        refine (noughts_int n _ (by omega)).mono ?_
        rintro e3 w3 ⟨rfl, hb3⟩
        refine hK _ _ ?_
        clear hK K
        refine wpAny_ready (rs := [12]) (by kernel_rfl) (by simp) ?_
        refine AllReady.cons rfl (fun K hK => ?_) AllReady.nil
        go_simp
        refine (length_int n _ (by omega)).mono ?_
        rintro e4 w4 ⟨rfl, hb4⟩
        refine hK _ _ ?_
        clear hK K
        refine wpAny_ready (rs := [13]) (by kernel_rfl) (by simp) ?_
        refine AllReady.cons rfl (fun K hK => ?_) AllReady.nil
        go_simp
        refine hK _ _ ?_
        clear hK K
        refine wpAny_ready (rs := [14]) (by kernel_rfl) (by simp) ?_
        refine AllReady.cons rfl (fun K hK => ?_) AllReady.nil
        go_simp
        refine (HWR.out w3 w4 hb3 hb4).mono ?_
        rintro e5 w5 ⟨rfl, hst5, hbl5⟩
        refine hK _ _ ?_
        clear hK K
        refine wpAny_done (by kernel_rfl) ?_ _
        go_wp2_with fail
        go_meet
        exact ⟨hst5, hbl5⟩
  case rest =>
    obtain ⟨hst, hbl⟩ := hcut
    obtain ⟨r2, hr2, _, hg2⟩ := hst
    have hszc := hbl.size
    have hbc := (Array.getElem?_eq_some_iff.1 hg2).1
    generalize Sh.chain (Sh.fill l) ((Sh.fill l).length / 64) = X at *
    have hmk := make20 wc
    have ho0 := own_make wc 20 (by omega)
    have hg3 : (wc.alloc (.cells (Array.replicate 20 (.int .u8 0)) 5)).heap[w.heap.size]? = some (.cells (sts X r2 (Sh.fill l).length) 81 (0, 0)) := (Below.heap_alloc _ _ _ hbc).trans hg2
    have HG3 := Lib.hid hg3
    have HO0 := Lib.hid ho0
    have HBL := Lib.hid (hbl.alloc hszc (.cells (Array.replicate 20 (.int .u8 0)) 5))
    clear ho0 hg3 hbl hg2
    go_wp2_with (with_reducible refine wpList_load_chain rfl (.tmp 27) rfl w.heap.size rfl X r2 (Sh.fill l).length HG3.out ?_)
    clear hmk
    generalize hwd : wc.alloc (.cells (Array.replicate 20 (.int .u8 0)) 5) = wd at *
    have hwds : wc.heap.size < wd.heap.size := by rw [← hwd]; simp
    clear hwd
    generalize hgc : wc.heap.size = gc at *
    clear hgc
    go_loopg [4, 6, 29] 5 (fun gk v s6 i wx => ∃ k : Nat, k ≤ 5 ∧ gk = 5 - k ∧ i = .int .i64 k ∧ Below w.heap.size w wx ∧ wx.ownsRow w.heap.size 5 1 v (4 * k) ((Sh.told X k).map fun c => .int .u8 c.toNat))
    case atStart => exact ⟨0, Nat.zero_le _, rfl, rfl, HBL.out, own_lower HO0.out hszc⟩
    case round =>
      obtain ⟨k, hk, rfl, rfl, hbl, hown⟩ := hrel
      clear HBL HO0 HG3
      by_cases hlt : k < 5
      · have h1 : (k : Int) < 5 := by omega
        have hix := run_index_row (P := Try.prog) Try.underlying40 Try.isAgg30 Try.sizeOf30 hlt (cs_get X k hlt)
        have hnx : Sh.told X (k + 1) = Sh.told X k ++ Sh.be4 (fld X k) := rfl
        have hblw := hbl.size
        generalize fld X k = x at *
        generalize hxs : ((Sh.told X k).map fun c => Value.int .u8 c.toNat) = xs at *
        have HX := Lib.hid hxs
        have HNX := Lib.hid hnx
        have HO := Lib.hid hown
        have HB := Lib.hid hbl
        clear hxs hnx hown hbl
        have hx0 := tn_nonneg x
        have hx1 := tn_lt x
        obtain ⟨b0, b1, b2, b3, hbe, q0, q1, q2, q3⟩ := be4_parts x
        have HBE := Lib.hid hbe
        clear hbe
        go_wp2_with (at_builtin; refine wpList_append_own_at _ rfl (.tmp 32) (.tmp 44) 66 rfl w.heap.size 5 i0 _ 1 1 Try.underlying66 HI.out.1 HI.out.2.1 HI.out.2.2.1 HI.out.2.2.2 rfl (by omega) u4 (4 * k) xs rfl (HO.out.alloc _) ⟨wr.heap.size, 0, none⟩ 4 4 [.int .u8 b0.toNat, .int .u8 b1.toNat, .int .u8 b2.toNat, .int .u8 b3.toNat] rfl rfl (World.news_of_block (cs := #[.int .u8 b0.toNat, .int .u8 b1.toNat, .int .u8 b2.toNat, .int .u8 b3.toNat]) (t := 5) (fr := (0, 0)) (heap_alloc_new wr _)) (by simp [Value.oneCell']) (by unfold maxLen; omega) (by omega) (by simp; omega) ?_; intro v1 wA hoA hgA hnA hatA)
        have hown2 : wA.ownsRow w.heap.size 5 1 v1 (4 * (k + 1)) ((Sh.told X (k + 1)).map fun c => .int .u8 c.toNat) := by
          rw [HNX.out, List.map_append, HX.out, HBE.out]
          exact hoA
        have hbl2 : Below w.heap.size w wA := (HB.out.alloc hblw _).grown hgA (by simp; omega) (fun i hi => (HO.out.lt i hi).1)
        have HO2 := Lib.hid hown2
        have HB2 := Lib.hid hbl2
        clear hown2 hbl2 hoA hgA hnA hatA
        go_roundg (5 - (k + 1))
        case rel => exact ⟨k + 1, by omega, rfl, by go_num, HB2.out, HO2.out⟩
        case measure => omega
      · obtain rfl : k = 5 := by omega
        have hconv := own_text hown
        rw [← HSUM.out] at hconv
        clear hown
        go_wp2
        go_ret
        exact ⟨rfl, hbl⟩

theorem sum_any (w : World) (A : Option Addr) (c : Nat) (ss : List ByteArray) (hS : Strs w w.heap.size A ss) (hs : (bls ss).flatten.length ≤ 1000000) (hss : ss.length ≤ 100000) :
    Calls Try.prog 24 #[.slice A ss.length c] w fun e w' => e = .returned (.string ⟨(Sh.sum (bls ss).flatten).toArray⟩) ∧ Below w.heap.size w w' := by
  have HS := Lib.hid hS
  clear hS
  go_enter Try.func24, Try.ntmps24
  go_wp2_with fail
  refine (new_any _).mono ?_
  rintro e1 w1 ⟨b, rfl, hb, hst, hbl⟩
  have hw := write_any w1 b [] A w.heap.size c ss hst (HS.out.below hbl) (fun h0 ad e => by
    obtain ⟨ad', e', hlt, _⟩ := HS.out 0 h0
    rw [e] at e'
    injection e' with e'
    subst e'
    omega) (by rw [List.length_nil]; omega) hss
  rw [List.nil_append] at hw
  have hbe := hbl.size
  generalize hL : (bls ss).flatten = L at *
  have HL := Lib.hid hL
  clear hL
  go_wp2_with fail
  refine hw.mono ?_
  rintro e2 w2 ⟨rfl, hst2, hg2⟩
  have hb2 : Below w.heap.size w w2 := hbl.grown hg2 hbe (fun k hk => by injection hk with hk; omega)
  go_wp2_with fail
  refine (ssum_any w2 b L hst2 hs).mono ?_
  rintro e3 w3 ⟨rfl, hb3⟩
  go_wp2
  go_ret
  exact ⟨by rw [HL.out]; rfl, hb2.trans (hb3.mono hb2.size)⟩
end Go.Proofs.Ytpffolohkmokhaa.Hp
