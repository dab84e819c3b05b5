/-
  slices.Backward at numbers, and the program's pushNew (layer 6).
-/
import Derived.Test.YtmfejibllhccaaaXb
import Derived.RangeFuncNested
import Derived.RangeFuncBound
import Derived.RangeFuncCalls
import Derived.RangeFuncLeaves
import Derived.Shelf.Abstract
import Derived.Shelf.RegionOpen
import Derived.WalkKit
import Derived.OwnWalkIn
import Derived.TacticsInMore
import Derived.LoopNIn
import Derived.LoopIn
namespace Go.Proofs.Ytmfejibllhccaaa.Hx
open Go.RowKit Go.Shelf Hw
set_option linter.unusedVariables false
attribute [local go_sem] Oper.semAt_some

/-- what stands at a place -/
def za (zs : List Int) (j : Nat) : Int := zs.getD j 0
/-- the places that have come when k rounds are over, from the end -/
def backs (n k : Nat) : List Nat := (List.range k).map fun j => n - 1 - j
theorem backs_succ (n k : Nat) : backs n (k + 1) = backs n k ++ [n - 1 - k] := by simp [backs, List.range_succ]
theorem backs_length (n k : Nat) : (backs n k).length = k := by simp [backs]

set_option maxRecDepth 100000 in
set_option maxHeartbeats 2000000 in
theorem back1_in (F : Fence) (n : Nat) (h7 : F.fn 48) (hro : F.round = none) (hn : 1 ≤ n) (l Bs B : Nat) (A : Option Addr) (cap : Nat) (zs : List Int) (G : List Nat) (hlen : zs.length ≤ 100000) (J Jx : List Nat → World → Prop)
    (hY : ∀ pre x W, J pre W → pre.length < zs.length → YieldAt F (n - 1) Try.prog l #[.int .i64 (x : Nat), .int .i64 (za zs x)] W fun e W' =>
      (e = .returned (.bool true) ∧ J (pre ++ [x]) W' ∧ Same G W W') ∨ (e = .returned (.bool false) ∧ Jx (pre ++ [x]) W'))
    (W : World) (hBs : W.cell? ⟨Bs, 0, none⟩ = some (.slice A zs.length cap)) (hBG : Bs ∈ G) (hc : Ints W B A zs) (hAG : ∀ ad, A = some ad → ad.block ∈ G) (h0 : J [] W) :
    CallsIn F n Try.prog 48 #[.func (.yield l) #[] #[], .pointer (some ⟨Bs, 0, none⟩)] W fun e W' => (∃ v, e = .returned v) ∧
      ((∃ ys, ys = backs zs.length zs.length ∧ J ys W') ∨ (∃ pre, True ∧ Jx pre W')) := by
  have HC := Lib.hid hc
  have HAG := Lib.hid hAG
  clear hc hAG
  refine callsIn_of_wp Try.func48 rfl h7 ?_ hro
  simp only [Try.ntmps48, List.size_toArray, List.length_cons, List.length_nil, Nat.reduceAdd, Nat.reduceSub, Array.replicate_succ, Array.replicate_zero, List.push_toArray, List.append_toArray, List.nil_append, List.cons_append]
  gi_wp2
  gi_loopw [3] (fun i wr => ∃ k : Nat, k ≤ zs.length ∧ i = .int .i64 ((zs.length : Int) - 1 - k) ∧ J (backs zs.length k) wr ∧ Same G W wr)
    (fun i _ => (intOf i + 1).toNat)
  case atStart => exact ⟨0, Nat.zero_le _, by simp, h0, fun _ _ => rfl⟩
  case round =>
    obtain ⟨k, hk, rfl, hJs, hnx⟩ := hrel
    by_cases hlt : k < zs.length
    · obtain ⟨j, hj⟩ : ∃ j : Nat, zs.length - 1 - k = j := ⟨_, rfl⟩
      have hjI : (zs.length : Int) - 1 - k = j := by omega
      have hjl : j < zs.length := by omega
      rw [hjI]
      obtain ⟨ad, rfl, hB, hcx⟩ := HC.out j hjl
      have hcx' : wr.cell? (ad.add j) = some (.int .i64 (za zs j)) := (World.cell?_of_block (w := W) (hnx _ (by rw [block_of_add]; exact HAG.out ad rfl))).trans hcx
      have hBs' : wr.cell? ⟨Bs, 0, none⟩ = some (.slice (some ad) zs.length cap) := (World.cell?_of_block (w := W) (hnx Bs hBG)).trans hBs
      obtain ⟨fn, tmps, assign, body, hy, hR⟩ := hY _ j wr hJs (by rw [backs_length]; exact hlt)
      have HJ := Lib.hid (And.intro hj (And.intro hjI (And.intro hk hlt)))
      clear hj hjI hk hlt hJs hcx
      have hj0 : (0 : Int) ≤ j := by omega
      have hj1 : (j : Int) < zs.length := by omega
      generalize za zs j = y at *
      gi_wp2
      refine hR.mono ?_
      rintro e W3 (⟨rfl, hJ3, hk3⟩ | ⟨rfl, hJx3⟩)
      · gi_wp2
        go_roundw
        case rel =>
          obtain ⟨hj, hjI, hk, hlt⟩ := HJ.out
          refine ⟨k + 1, by omega, ?_, by rw [backs_succ, hj]; exact hJ3, fun b hb => (hk3 b hb).trans (hnx b hb)⟩
          congr 1
          omega
        case measure => simp [intOf]
      · gi_wp2
        refine bodyPost_ret (results_none rfl _ _ _) rfl ?_
        exact ⟨⟨_, rfl⟩, .inr ⟨_, trivial, hJx3⟩⟩
    · obtain rfl : k = zs.length := by omega
      gi_wp2
      go_end0
      exact ⟨⟨_, rfl⟩, .inl ⟨_, rfl, hJs⟩⟩

set_option maxRecDepth 100000 in
theorem backward_in (F : Fence) (n : Nat) (h5 : F.fn 43) (hro : F.round = none) (a : Option Addr) (len cap : Nat) (w : World) :
    CallsIn F n Try.prog 43 #[.slice a len cap] w fun e w' => e = .returned (.func (.func 48) #[] #[.pointer (some ⟨w.heap.size, 0, none⟩)]) ∧ w' = w.alloc (.cells #[.slice a len cap] 26) := by
  refine callsIn_of_wp Try.func43 rfl h5 ?_ hro
  simp only [Try.ntmps43, List.size_toArray, List.length_cons, List.length_nil, Nat.reduceAdd, Nat.reduceSub, Array.replicate_succ, Array.replicate_zero, List.push_toArray, List.append_toArray, List.nil_append, List.cons_append]
  gi_wp2
  go_ret
  exact ⟨rfl, rfl⟩

theorem back_stops (F : Fence) (n : Nat) (h7 : F.fn 48) (hro : F.round = none) (hn : 1 ≤ n) (Bs B : Nat) (A : Option Addr) (cap : Nat) (zs : List Int) (G : List Nat) (hlen : zs.length ≤ 100000) (w : World)
    (hBs : w.cell? ⟨Bs, 0, none⟩ = some (.slice A zs.length cap)) (hBG : Bs ∈ G) (hc : Ints w B A zs) (hAG : ∀ ad, A = some ad → ad.block ∈ G) (hG : Lies G w) :
    SeqStopsK F n Try.prog 48 #[.pointer (some ⟨Bs, 0, none⟩)] (fun x : Nat => #[Value.int .i64 (x : Nat), Value.int .i64 (za zs x)]) (Same G) (fun ys => ys = backs zs.length zs.length) (fun _ => True) zs.length w := fun l J Jx W hW _ _ hY h0 => by
  have hs : Same G w W := fun k hk => hW.block k (hG k hk)
  refine back1_in F n h7 hro hn l Bs B A cap zs G hlen J Jx hY W ((World.cell?_of_block (w := w) (hs Bs hBG)).trans hBs) hBG (fun i hi => ?_) hAG h0
  obtain ⟨ad, e, hlt, hcx⟩ := hc i hi
  exact ⟨ad, e, hlt, (World.cell?_of_block (w := w) (hs _ (by rw [block_of_add]; exact hAG ad e))).trans hcx⟩

/-! ### pushNew -/
theorem TodoAt.cells {w : World} {b : Nat} {l : List Int} {F : List Nat} (h : TodoAt w b l F) {k : Nat} (hk : k ∈ F) {o : Obj} (ho : w.heap[k]? = some o) : o.isCells = true := by
  obtain ⟨v, t, hb, hr, hne, rfl⟩ := h
  rcases List.mem_cons.1 hk with rfl | hk
  · rw [hb] at ho; injection ho with ho; subst ho; rfl
  · rcases hr.2 with ⟨rfl, _⟩ | ⟨g, cap, cur, rfl, _, hg, _⟩
    · simp [Value.ownBlock] at hk
    · simp [Value.ownBlock] at hk
      subst hk
      rw [hg] at ho; injection ho with ho; subst ho; rfl
/-- what is pushed of the places in pre -/
def news (zs ks : List Int) (pre : List Nat) : List Int := (pre.map fun j => za zs j).filter fun x => decide (x ∉ ks)
theorem news_snoc (zs ks : List Int) (pre : List Nat) (j : Nat) : news zs ks (pre ++ [j]) = news zs ks pre ++ (if za zs j ∈ ks then [] else [za zs j]) := by
  simp only [news, List.map_append, List.filter_append, List.map_cons, List.map_nil, List.filter_cons, List.filter_nil]
  by_cases h : za zs j ∈ ks
  · rw [if_pos h, if_neg (by simpa using h)]
  · rw [if_neg h, if_pos (by simpa using h)]
theorem news_le (zs ks : List Int) (pre : List Nat) : (news zs ks pre).length ≤ pre.length := by
  unfold news
  exact Nat.le_trans (List.length_filter_le _ _) (by simp)
theorem news_all (zs ks : List Int) : news zs ks (backs zs.length zs.length) = zs.reverse.filter fun x => decide (x ∉ ks) := by
  unfold news
  congr 1
  apply List.ext_getElem
  · simp [backs]
  · intro i h1 h2
    have hi : i < zs.length := by simpa using h2
    have hj : zs.length - 1 - i < zs.length := by omega
    simp [backs, za, List.getD, List.getElem?_eq_getElem hj]
theorem getD_wf {zs : List Int} (h : ∀ x, x ∈ zs → (Lit.int .i64 x).wf = true) (j : Nat) : (Lit.int .i64 (za zs j)).wf = true := by
  by_cases hj : j < zs.length
  · exact h _ (by simp [za, List.getD, List.getElem?_eq_getElem hj])
  · have : za zs j = 0 := by simp [za, List.getD, List.getElem?_eq_none (by omega : zs.length ≤ j)]
    rw [this]
    decide

set_option maxRecDepth 100000 in
set_option maxHeartbeats 2000000 in
theorem pushnew_any (w : World) (bT bS B : Nat) (F G : List Nat) (xs ks zs : List Int) (A : Option Addr) (c : Nat) (hT : TodoAt w bT xs F) (hS : SeenAt w bS ks G) (hap : Apart G F) (hz : Ints w B A zs) (hAF : ∀ ad, A = some ad → ad.block < w.heap.size ∧ ad.block ∉ F)
    (hwf : ∀ x, x ∈ zs → (Lit.int .i64 x).wf = true) (hlen : xs.length + zs.length ≤ 100000) :
    Calls Try.prog 38 #[.pointer (some ⟨bT, 0, none⟩), .pointer (some ⟨bS, 0, none⟩), .slice A zs.length c] w fun e w' => e = .returned (.tuple #[]) ∧ ∃ F', TodoAt w' bT (xs ++ zs.reverse.filter fun x => decide (x ∉ ks)) F' ∧ Turns F F' w w' := by
  refine (callsIn_wide (n := 6)).1 ?_
  have hro : Fence.wide.round = none := rfl
  have h43 : Fence.wide.fn 43 := trivial
  have h48 : Fence.wide.fn 48 := trivial
  have cB : ∀ a len cap W, CallsIn Fence.wide 5 Try.prog 43 #[.slice a len cap] W fun e w' => e = .returned (.func (.func 48) #[] #[.pointer (some ⟨W.heap.size, 0, none⟩)]) ∧ w' = W.alloc (.cells #[.slice a len cap] 26) := fun a len cap W => backward_in Fence.wide 5 h43 hro a len cap W
  refine callsIn_of_wp_marks Try.func38 rfl trivial ?_ hro
  simp only [Try.ntmps38, List.size_toArray, List.length_cons, List.length_nil, Nat.reduceAdd, Nat.reduceSub, Array.replicate_succ, Array.replicate_zero, List.push_toArray, List.append_toArray, List.nil_append, List.cons_append]
  have HT := Lib.hid hT
  have HS := Lib.hid hS
  have HZ := Lib.hid hz
  clear hT hS hz
  gi_wp2_with (gi_at_call 43; refine (cB _ _ _ _).mono ?_; rintro e w' ⟨rfl, rfl⟩)
  have HW := Lib.hid (getD_wf hwf)
  have HAF := Lib.hid hAF
  have HAP := Lib.hid hap
  clear hwf hAF hap
  obtain ⟨W0, hW0⟩ : ∃ W0, ((w.alloc (Obj.cells #[Value.pointer (some ⟨bT, 0, none⟩)] 64)).alloc (Obj.cells #[Value.pointer (some ⟨bS, 0, none⟩)] 65)).alloc (Obj.cells #[Value.slice A zs.length c] 26) = W0 := ⟨_, rfl⟩
  have hsz : W0.heap.size = w.heap.size + 3 := by rw [← hW0]; simp
  have hBW : Below w.heap.size w W0 := by rw [← hW0]; exact (((Below.refl _ w).alloc (Nat.le_refl _) _).alloc (by simp) _).alloc (by simp; omega) _
  have hH0 : W0.heap[w.heap.size]? = some (.cells #[Value.pointer (some ⟨bT, 0, none⟩)] 64) := by
    rw [← hW0]; exact (Below.heap_alloc _ _ _ (by simp; omega)).trans ((Below.heap_alloc _ _ _ (by simp)).trans (heap_alloc_new w _))
  have hH1 : W0.heap[w.heap.size + 1]? = some (.cells #[Value.pointer (some ⟨bS, 0, none⟩)] 65) := by
    rw [← hW0]; refine (Below.heap_alloc _ _ _ (by simp)).trans ?_
    have := heap_alloc_new (w.alloc (Obj.cells #[Value.pointer (some ⟨bT, 0, none⟩)] 64)) (Obj.cells #[Value.pointer (some ⟨bS, 0, none⟩)] 65)
    rwa [World.size_alloc] at this
  have hH2 : W0.heap[w.heap.size + 1 + 1]? = some (.cells #[Value.slice A zs.length c] 26) := by
    rw [← hW0]
    have := heap_alloc_new ((w.alloc (Obj.cells #[Value.pointer (some ⟨bT, 0, none⟩)] 64)).alloc (Obj.cells #[Value.pointer (some ⟨bS, 0, none⟩)] 65)) (Obj.cells #[Value.slice A zs.length c] 26)
    rwa [World.size_alloc, World.size_alloc] at this
  rw [hW0]
  have hF : Lies F w := HT.out.lies
  have hT0 : TodoAt W0 bT xs F := HT.out.same (same_of_below hBW hF)
  have hS0 : SeenAt W0 bS ks G := HS.out.same (same_of_below hBW HS.out.lies)
  have hZ0 : Ints W0 B A zs := fun i hi => by
    obtain ⟨ad, e, hlt, hcx⟩ := HZ.out i hi
    exact ⟨ad, e, hlt, (World.cell?_of_block (w := w) (hBW.block _ (by rw [block_of_add]; exact (HAF.out ad e).1))).trans hcx⟩
  obtain ⟨GS, hGS⟩ : ∃ GS : List Nat, GS = (w.heap.size + 1 + 1) :: A.toList.map (·.block) := ⟨_, rfl⟩
  have hGl : Lies GS W0 := by
    rw [hGS]
    intro k hk
    rcases List.mem_cons.1 hk with rfl | hk
    · omega
    · obtain ⟨ad, ha, rfl⟩ := List.mem_map.1 hk
      have := (HAF.out ad (by simpa using ha)).1
      omega
  have hGF : Apart GS F := by
    rw [hGS]
    intro k hk hf
    rcases List.mem_cons.1 hk with rfl | hk
    · have := hF _ hf; omega
    · obtain ⟨ad, ha, rfl⟩ := List.mem_map.1 hk
      exact (HAF.out ad (by simpa using ha)).2 hf
  have HTA := Lib.hid (And.intro hT0 (And.intro hS0 (And.intro hF (And.intro hGl hGF))))
  have HBW := Lib.hid hBW
  have h1 : 1 ≤ 6 := by omega
  have hIown : OwnFrom W0.heap.size (fun (pre : List Nat) (W : World) => ∃ F', TodoAt W bT (xs ++ news zs ks pre) F' ∧ Turns F F' W0 W) := by
    rintro pre W W' row ⟨F', ht, hu⟩ hg hr
    have hnr : ∀ k, k ∈ F' → some k ≠ row := fun k hk e => by
      obtain ⟨_, o, ho, hc⟩ := hr k e.symm
      rw [ht.cells hk ho] at hc
      cases hc
    refine ⟨F', ht.same (fun k hk => hg.block k (ht.lies k hk) (hnr k hk)), ⟨hg.os.trans hu.os, hg.tape.trans hu.tape, hg.output.trans hu.output, Nat.le_trans hu.size hg.size, fun k hk hn => ?_, hu.foot⟩⟩
    refine (hg.block k (Nat.lt_of_lt_of_le hk hu.size) (fun e => ?_)).trans (hu.block k hk hn)
    have := (hr k e.symm).1
    omega
  refine wpIn_rangeFunc_ownG hro h1 (gf := 48) (lb := #[.pointer (some ⟨w.heap.size + 1 + 1, 0, none⟩)]) rfl h48 (enters_of Try.func48 (by kernel_rfl) rfl)
    (back_stops Fence.wide (6 - 1) h48 hro (by omega) (w.heap.size + 1 + 1) B A c zs GS (by omega) W0 (by rw [cell_of_cells hH2]; rfl) (by rw [hGS]; simp) hZ0 (fun ad ha => by rw [hGS]; simp [ha]) hGl)
    (fun h k b hb => (k b hb).trans (h b hb)) (fun W l o o' hl ho _ _ => fun k hk => World.putObj_heap_other (fun e => by have := hGl k hk; omega)) (Below.refl _ _) (fun _ => rfl)
    (fun pre W => ∃ F', TodoAt W bT (xs ++ news zs ks pre) F' ∧ Turns F F' W0 W)
    (fun _ _ _ => False) hIown (fun _ _ _ _ _ hs _ _ => hs)
    ⟨F, by simpa [news] using hT0, Turns.refl _ _⟩
    (fun x => { tmps := #[Value.pointer (some ⟨bT, 0, none⟩), Value.pointer (some ⟨bS, 0, none⟩), Value.slice A zs.length c, Value.pointer (some ⟨w.heap.size, 0, none⟩), Value.pointer (some ⟨w.heap.size + 1, 0, none⟩), undef, undef, Value.int .i64 (za zs x), Value.slice A zs.length c, Value.func (Fn.func 48) #[] #[Value.pointer (some ⟨w.heap.size + 1 + 1, 0, none⟩)], Value.int .i64 (x : Nat), Value.int .i64 (za zs x), undef, undef, undef, undef, undef, undef, undef], defers := [] }) ?assign ?body ?done ?stop
  case assign =>
    intro l x W K hK
    gi_wp2
    exact hK
  case body =>
    rintro l pre x W ⟨F', ht, hu⟩ hpl
    have hln := news_le zs ks pre
    have hns := news_snoc zs ks pre x
    have hwx := HW.out x
    obtain ⟨hT0, hS0, hF, hGl, hGF⟩ := HTA.out
    have hs1 : SeenAt W bS ks G := hS0.same (hu.same hS0.lies HAP.out)
    have hb0 : W.heap[w.heap.size]? = _ := (hu.block w.heap.size (by omega) (fun e => by have := hF _ e; omega)).trans hH0
    have hb1 : W.heap[w.heap.size + 1]? = _ := (hu.block (w.heap.size + 1) (by omega) (fun e => by have := hF _ e; omega)).trans hH1
    have c1 : W.cell? ⟨w.heap.size + 1, 0, none⟩ = some (.pointer (some ⟨bS, 0, none⟩)) := by rw [cell_of_cells hb1]; rfl
    have HCH := Lib.hid (has_any W bS G ks (za zs x) hs1 hwx)
    have HU := Lib.hid (And.intro ht (And.intro hu hb0))
    have hxl : (xs ++ news zs ks pre).length ≤ 100000 := by rw [List.length_append]; omega
    clear hwx hT0 hS0 hs1 hb1 ht hu hb0
    generalize za zs x = y at *
    by_cases hin : y ∈ ks
    · rw [if_pos hin, List.append_nil] at hns
      rw [decide_eq_true hin] at HCH
      have HNS := Lib.hid hns
      clear hns hin
      gi_wp2_with (refine ⟨trivial, ?_⟩; gi_at_call 18; refine (CallsIn.inRound l (callsIn_wide.2 HCH.out)).mono ?_; rintro e W2 ⟨rfl, hb2⟩)
      obtain ⟨ht, hu, hb0⟩ := HU.out
      refine ⟨⟨hb2.size, fun k o _ hk _ => (hb2.block k (Array.getElem?_eq_some_iff.1 hk).1).trans hk⟩, fun k hk => hb2.block k (Nat.lt_of_lt_of_le (hGl k hk) hu.size), F', by rw [HNS.out]; exact ht.same (same_of_below hb2 ht.lies), hu.trans (((Turns.of_below hb2).wider (G := F') (fun k hk => by cases hk)).to (fun k hk => .inl hk))⟩
    · rw [if_neg hin] at hns
      rw [decide_eq_false hin] at HCH
      have HNS := Lib.hid hns
      clear hns hin
      gi_wp2_with (first
        | (refine ⟨trivial, ?_⟩; gi_at_call 18; refine (CallsIn.inRound l (callsIn_wide.2 HCH.out)).mono ?_; rintro e W2 ⟨rfl, hb2⟩; have ht2 := HU.out.1.same (same_of_below hb2 HU.out.1.lies); have c0 : W2.cell? ⟨w.heap.size, 0, none⟩ = some (.pointer (some ⟨bT, 0, none⟩)) := (by rw [cell_of_cells ((hb2.block w.heap.size (by have := HU.out.2.1.size; omega)).trans HU.out.2.2)]; rfl); have HP := Lib.hid (push_any W2 bT F' _ y ht2 hxl); have HB2 := Lib.hid hb2; clear hb2 ht2 HCH)
        | (refine ⟨trivial, ?_⟩; gi_at_call 14; refine (CallsIn.inRound l (callsIn_wide.2 HP.out)).mono ?_; rintro e W3 ⟨rfl, F'', ht3, hu3⟩))
      obtain ⟨ht, hu, hb0⟩ := HU.out
      have hb2 := HB2.out
      have ht2 := ht.same (same_of_below hb2 ht.lies)
      have hu23 : Turns F' F'' W W3 := (((Turns.of_below hb2).wider (G := F') (fun k hk => by cases hk)).to (F'' := F') (fun k hk => .inl hk)).trans hu3
      refine ⟨⟨hu23.size, fun k o _ hk ho => (hu23.block k (Array.getElem?_eq_some_iff.1 hk).1 (fun e => by rw [ht.cells e hk] at ho; cases ho)).trans hk⟩, hu23.same (hGl.mono hu.size) (hu.apart hGl hGF), F'', by rw [HNS.out, ← List.append_assoc]; exact ht3, hu.trans hu23⟩
  case done =>
    rintro D ys W hD rfl ⟨F', ht, hu⟩ hK
    gi_wp2
    refine ⟨by simp, .inl ⟨_, _, rfl, run_takeDeferred hK, ?_⟩⟩
    rw [news_all] at ht
    obtain ⟨hT0, hS0, hF, hGl, hGF⟩ := HTA.out
    have hDF : ∀ k, k ∈ F' → k ≠ D := fun k hk e => by
      subst e
      have := ht.cells hk hK
      cases this
    refine ⟨_, results_none rfl _ _ _, rfl, F', ht.same (fun k hk => World.putObj_heap_other (hDF k hk)), ?_⟩
    have hu0 : Turns F F w W0 := ((Turns.of_below HBW.out).wider (G := F) (fun k hk => by cases hk)).to (fun k hk => .inl hk)
    have hu1 := hu0.trans hu
    refine ⟨hu1.os, hu1.tape, hu1.output, by simpa using hu1.size, fun k hk hn => (World.putObj_heap_other (by omega)).trans (hu1.block k hk hn), hu1.foot⟩
  case stop =>
    rintro D c pre W _ _ h _
    exact h.elim
end Go.Proofs.Ytmfejibllhccaaa.Hx
