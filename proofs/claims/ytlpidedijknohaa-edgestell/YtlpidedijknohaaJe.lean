/-
  Layer 12, the program's side: the names that an object names: gathered, sorted, each once.
-/
import Derived.Test.YtlpidedijknohaaJd
import Derived.Test.YtlpidedijknohaaLay
import Derived.Sort.OwnSorted
import Derived.Lib.OwnBridge
import Derived.Lib.RowBridge
namespace Go.Proofs.Ytlpidedijknohaa.Hq
open Go.RowKit Ob Hr Hj Eg
set_option linter.unusedVariables false

theorem flat_stV (l : List ByteArray) : l.flatMap stV = (l.map bl).map Proofs.encStr := by
  rw [show l.map bl = l.map (·.data.toList) from rfl, Lib.map_encStr]
  induction l with
  | nil => rfl
  | cons x l ih => rw [List.flatMap_cons, ih]; rfl
/-- sorted, in its place -/
def SortedAt (w : World) (base : Nat) (A : Option Addr) (n c : Nat) (zs : List (List UInt8)) : Prop :=
  zs.length = n ∧ (0 < n → ∃ g, A = some ⟨g, 0, none⟩ ∧ base ≤ g ∧ g < w.heap.size ∧ n ≤ c ∧ Go.Sort.Holds Proofs.encStr w g 0 zs.toArray)
theorem sort_any (w : World) (base : Nat) (A : Option Addr) (n c : Nat) (xs : List ByteArray) (ho : w.ownsRow base 9 1 (.slice A n c) n (xs.flatMap stV)) (hn : xs.length = n) (hl : n ≤ 100000) (hb : base ≤ w.heap.size) :
    Calls Try.prog 25 #[.slice A n c] w fun r w' => r = .returned (.tuple #[]) ∧ SortedAt w' base A n c ((xs.map bl).mergeSort fun x y => decide (x ≤ y)) ∧ Below base w w' := by
  by_cases h0 : n = 0
  · subst h0
    obtain rfl := List.length_eq_zero_iff.1 hn
    refine (Try.slices_Sort_string_none A c w).mono ?_
    rintro r w' ⟨rfl, rfl⟩
    exact ⟨rfl, ⟨by simp, fun h => by omega⟩, Below.refl _ _⟩
  · have ho' := ho
    rw [flat_stV] at ho'
    obtain ⟨g, cap, e, hg1, hg2, hc1, hc2, hll, hH⟩ := Lib.holds_of_ownsRow ho' (by intro e; injection e with _ e2 _; exact h0 e2)
    injection e with e1 _ e3
    subst e1 e3
    have hcall := Try.slices_Sort_string g 0 c (xs.map bl) w hH hg2 (by rw [List.length_map]; omega)
    rw [List.length_map, hn] at hcall
    refine hcall.mono ?_
    rintro r w' ⟨rfl, q, os, rfl⟩
    rcases ho'.2 with ⟨e, _⟩ | ⟨g', cap', cur, e, hb', hgg, hn', hm, hs, ht⟩
    · injection e with e _ _; cases e
    · injection e with e1 _ e3
      injection e1 with e1
      injection e1 with e1
      subst e1; subst e3
      have h9 := ownsRow_sorted (n := q) (os := os) (ss := xs.map bl) (ts := (xs.map bl).mergeSort fun x y => decide (x ≤ y)) (by simp) hb' hgg (by simpa [hn] using hn') hm hs
      rw [List.length_map, hn] at h9
      obtain ⟨g2, cap2, e2, k1, k2, k3, k4, k5, k6⟩ := Lib.holds_of_ownsRow h9 (by intro e; injection e with e _ _; cases e)
      injection e2 with e4 _ e5
      injection e4 with e4
      injection e4 with e4
      subst e4
      exact ⟨rfl, ⟨by simp [hn], fun _ => ⟨g, rfl, hg1, k2, hc1, k6⟩⟩, (Below.refl _ w).grown (grownBy_sorted _) hb (fun i hi => by injection hi with hi; omega)⟩
theorem compact_any (w : World) (base : Nat) (A : Option Addr) (n c : Nat) (xs : List ByteArray) (h : SortedAt w base A n c ((xs.map bl).mergeSort fun x y => decide (x ≤ y))) (hn : xs.length = n) (hl : n ≤ 100000) (hb : base ≤ w.heap.size) :
    Calls Try.prog 26 #[.slice A n c] w fun e w' => (∃ A2 c2, e = .returned (.slice A2 (riseF xs).length c2) ∧ Strs w' w'.heap.size A2 (riseF xs)) ∧ Below base w w' := by
  by_cases h0 : n = 0
  · subst h0
    obtain rfl := List.length_eq_zero_iff.1 hn
    refine (Try.slices_Compact_string_empty A c w).mono ?_
    rintro r w' ⟨rfl, rfl⟩
    exact ⟨⟨A, c, rfl, fun i hi => by simp [riseF] at hi⟩, Below.refl _ _⟩
  · obtain ⟨h1, h2⟩ := h
    obtain ⟨g, rfl, hg1, hg2, hnc, hH⟩ := h2 (by omega)
    have hcall := Try.slices_Compact_string g 0 c _ w hH (by omega) (by omega)
    have hlen : (Lib.compact ((xs.map bl).mergeSort fun x y => decide (x ≤ y))).length ≤ n := by have := Lib.compact_length_le ((xs.map bl).mergeSort fun x y => decide (x ≤ y)); omega
    rw [h1, sorted_names, List.length_map] at hcall
    rw [sorted_names, List.length_map] at hlen
    refine hcall.mono ?_
    rintro r w' ⟨rfl, q, rfl⟩
    have hp := Go.Sort.holds_putRow Proofs.encStr (Go.Sort.ahead w q) g 0 _ ((riseF xs).map bl ++ List.replicate (n - (riseF xs).length) []).toArray hH (by simp [h1]; omega)
    refine ⟨⟨_, _, rfl, fun i hi => ⟨_, rfl, ?_, ?_⟩⟩, ?_⟩
    · have hz := (grownBy_sorted (w := w) (g := g) (n := q) (os := #[]) ((riseF xs).map bl ++ List.replicate (n - (riseF xs).length) []).toArray).size
      rw [Go.Sort.grow_empty] at hz
      show g < _
      omega
    · have h9 := (hp i (by simp; omega)).1
      rw [Nat.zero_add] at h9
      rw [show (⟨g, 0, none⟩ : Addr).add i = ⟨g, i, none⟩ from Hg.add0 g i, h9]
      have e : ((riseF xs).map bl ++ List.replicate (n - (riseF xs).length) []).toArray[i]! = bl ((riseF xs).getD i ByteArray.empty) := by
        rw [getElem!_pos _ i (by simp; omega)]
        simp [List.getElem_append_left, hi, List.getD]
      rw [e]
      exact congrArg (fun t => some (Value.string t)) (str_bl _)
    · have hg := grownBy_sorted (w := w) (g := g) (n := q) (os := #[]) ((riseF xs).map bl ++ List.replicate (n - (riseF xs).length) []).toArray
      rw [Go.Sort.grow_empty] at hg
      exact (Below.refl _ w).grown hg hb (fun i hi => by injection hi with hi; omega)
theorem edges_few {o : Thing} (he : o.ents.length ≤ 10000) (hp : o.parents.length ≤ 10000) : (edgesF o).length ≤ 10001 := by
  rcases kinds o with hk | hk | hk | hk
  · rw [edges_tree hk]; simp; omega
  · rw [edges_commit hk]; simp; omega
  · rw [edges_tag hk]; simp
  · rw [edges_none hk]; simp
theorem getD_ids (o : Thing) {i : Nat} (hi : i < (edgesF o).length) : (idsF o).getD i default = ((edgesF o).getD i default).1 := by
  rw [idsF, getD_map _ hi]

set_option maxHeartbeats 8000000 in
set_option maxRecDepth 100000 in
theorem pNames_any (w : World) (B : Nat) (o : Thing) (A : Option Addr) (c : Nat) (P : Option Addr) (d : Nat) (hl : Lies w B o A P) (hB : B ≤ w.heap.size) (he : o.ents.length ≤ 10000) (hp : o.parents.length ≤ 10000) :
    Calls Try.prog 11 #[.agg (objC o A c P d)] w fun e w' => (∃ A2 c2, e = .returned (.slice A2 (namesF o).length c2) ∧ Strs w' w'.heap.size A2 (namesF o)) ∧ Below w.heap.size w w' := by
  obtain ⟨i0, E⟩ := st_elem
  have HE := Lib.hid E
  have HP := Lib.hid (keep_new (c := c) (d := d) hl hB)
  have hln : (edgesF o).length ≤ 10001 := edges_few he hp
  have HC := Lib.hid (places_any (w.alloc (.cells (objC o A c P d) 25 (0, 0))) w.heap.size B o A c P d HP.out.box.a ⟨HP.out.ents, HP.out.pars⟩ (by simp; omega) he hp)
  have HPC := Lib.hid (fun W i (h : Keep w W B o A c P d) (hi : i < (edgesF o).length) => show W.cell? ((placesF w.heap.size A P o).getD i default).ad = some (.string ((idsF o).getD i default)) from by rw [getD_ids o hi]; exact (plc_cell h.box.a ⟨h.ents, h.pars⟩ hi).1)
  have hQl : (placesF w.heap.size A P o).length = (edgesF o).length := placesF_len _ _ _ _
  have hIl : (idsF o).length = (edgesF o).length := ids_len o
  unfold namesF
  clear hl E he hp
  generalize hL : idsF o = L at *
  generalize hQ : placesF w.heap.size A P o = Q at *
  obtain ⟨n, hn⟩ : ∃ n, (edgesF o).length = n := ⟨_, rfl⟩
  rw [hn] at HC hQl hln HPC hIl
  have HNL := Lib.hid (And.intro hIl hQl)
  have HTL := Lib.hid (show ∀ k, k ≤ n → (L.take k).length = k from fun k h => by rw [List.length_take]; omega)
  have HTK := Lib.hid (show ∀ k, k < n → L.take (k + 1) = L.take k ++ [L.getD k default] from fun k h => take_snoc (by omega))
  clear hL hQ hQl hIl hn
  go_enter Try.func11, Try.ntmps11
  go_wp2_with (go_at_call 23; refine HC.out.mono ?_; rintro r w2 ⟨⟨A2, c2, rfl, hrow⟩, hb2⟩)
  have HQ := Lib.hid (plc_rec hrow HNL.out.2)
  rw [World.size_alloc] at hb2
  have HP2 := Lib.hid (HP.out.step hB hb2)
  clear hrow hb2 HC HP
  go_loopg [3, 8] n (fun g' v i wr => ∃ (k : Nat) (A3 : Option Addr) (c3 : Nat), k ≤ n ∧ g' = n - k ∧ i = .int .i64 k ∧ v = .slice A3 k c3 ∧ Below w2.heap.size w2 wr ∧ wr.ownsRow w2.heap.size 9 1 v k ((L.take k).flatMap stV))
  case atStart => exact ⟨0, none, 0, Nat.zero_le _, rfl, rfl, rfl, Below.refl _ _, World.ownsRow_nil _ _ _ _⟩
  case round =>
    obtain ⟨k, A3, c3, hkl, rfl, rfl, rfl, hbl, hown⟩ := hrel
    have HP3 := Lib.hid (HP2.out.step hB (hbl.mono HP2.out.size))
    have HO := Lib.hid (And.intro hbl hown)
    clear hbl hown
    by_cases hlt : k < n
    · have h1 : (k : Int) < n := by omega
      have h0 : (0 : Int) ≤ k := by omega
      obtain ⟨ad2, e, hB1, hc⟩ := (HQ.out.below HO.out.1) k (by rw [HNL.out.2]; exact hlt)
      have m0 : wr.cell? (ad2.add (k * 2)) = some (.pointer (some (Q.getD k default).ad)) := by have := hc 0 (by omega); rwa [show (ad2.add (k * 2)).add 0 = ad2.add (k * 2) from rfl] at this
      have m1 : wr.cell? ⟨(ad2.add (k * 2)).block, (ad2.add (k * 2)).off + 1, none⟩ = some (.int .i64 (Q.getD k default).kd) := hc 1 (by omega)
      have p1 := HPC.out wr k HP3.out hlt
      have HS := Lib.hid (HTK.out k hlt)
      have hlen := HTL.out k hkl
      have hlk := HTL.out (k + 1) hlt
      have hw1 : IntKind.i64.wrap ((k : Int) + 1) = (k : Int) + 1 := IntWalk.i64_in _ (by omega)
      generalize (Q.getD k default).ad = qa at *
      generalize (Q.getD k default).kd = qk at *
      generalize L.getD k default = x at *
      subst e
      clear hc
      have hba : Below wr.heap.size wr (wr.alloc (.cells #[.pointer (some qa), .int .i64 qk] 54 (0, 0))) := (Below.refl _ wr).alloc (Nat.le_refl _) _
      have HXX := Lib.hid (And.intro ((hba.cell (World.block_lt_of_cell? _ _ p1)).trans p1) (And.intro (own_step HO.out.2 hba) (And.intro (HO.out.1.trans (hba.mono HO.out.1.size)) (box_new wr 54 #[.pointer (some qa), .int .i64 qk]))))
      clear hba p1
      go_upto_region 5 with fail
      generalize wr.alloc (.cells #[.pointer (some qa), .int .i64 qk] 54 (0, 0)) = W5 at *
      generalize wr.heap.size = g5 at *
      have k0 := HXX.out.1
      have k1 := HXX.out.2.2.2.cell 0
      obtain ⟨A4, c4, y1, hrun, ho1, hb1⟩ := app_one HE.out stV_len stV_one W5 w2.heap.size A3 c3 (L.take k) x 23 (by rw [hlen]; exact HXX.out.2.1) (by omega) HXX.out.2.2.1.size
      rw [← HS.out, hlk] at hrun ho1
      simp only [stV, hlen] at hrun
      have HRUN := Lib.hid hrun
      have HX := Lib.hid (And.intro ho1 (HXX.out.2.2.1.trans hb1))
      clear hrun ho1 hb1
      go_wp2_with (at_builtin; refine wpList_append_run rfl (.tmp 12) (.tmp 17) 23 23 rfl _ _ _ y1 rfl rfl HRUN.out ?_)
      go_roundg (n - (k + 1))
      case rel => exact ⟨k + 1, A4, c4, by omega, rfl, by go_num, rfl, HX.out.2, HX.out.1⟩
      case measure => omega
    · have h1 : ¬ (k : Int) < n := by omega
      obtain rfl : k = n := by omega
      have HF := Lib.hid (show L.take k = L from List.take_of_length_le (by have := HNL.out.1; omega))
      rw [HF.out] at HO
      have HSO := Lib.hid (sort_any wr w2.heap.size A3 k c3 L HO.out.2 HNL.out.1 (by omega) HO.out.1.size)
      have HBW := Lib.hid (HP2.out.box.below.trans (HO.out.1.mono HP2.out.box.below.size))
      go_wp2_with (first
        | (go_at_call 25; refine HSO.out.mono ?_; rintro r w3 ⟨rfl, hs3, hb3⟩
           have HCO := Lib.hid (compact_any w3 w2.heap.size A3 k c3 L hs3 HNL.out.1 (by omega) (Nat.le_trans HO.out.1.size hb3.size))
           have HB3 := Lib.hid (HO.out.1.trans hb3)
           clear hs3 hb3)
        | (go_at_call 26; refine HCO.out.mono ?_; rintro r w4 ⟨⟨A5, c5, rfl, hst⟩, hb4⟩))
      go_ret
      exact ⟨⟨A5, c5, rfl, hst⟩, HP2.out.box.below.trans ((HB3.out.trans hb4).mono HP2.out.box.below.size)⟩
end Go.Proofs.Ytlpidedijknohaa.Hq
