/-
  Layer 12: the document's Names and With.
-/
import Derived.Test.YtlpidedijknohaaJi
import Derived.Test.YtlpidedijknohaaJf
import Derived.Test.YtlpidedijknohaaJh
namespace Go.Proofs.Ytlpidedijknohaa.Hq
open Go.RowKit Ob Hr Hj Eg
set_option linter.unusedVariables false

theorem ed_recs {W : World} {B : Nat} {e : TypeId} {A2 : Option Addr} {c2 : Nat} {Q : List Edg} {n : Nat} (h : W.ownsRow B e 2 (.slice A2 n c2) n (Q.flatMap edV)) : Recs 2 edV W W.heap.size A2 Q := by
  obtain ⟨A, c, e, _, hr⟩ := recs_own edV_len (by omega) h
  injection e with e _ _
  rw [e]
  exact hr

set_option maxHeartbeats 8000000 in
set_option maxRecDepth 100000 in
theorem dNames_any (w : World) (B : Nat) (o : Thing) (A : Option Addr) (c : Nat) (P : Option Addr) (d : Nat) (hl : Lies w B o A P) (hB : B ≤ w.heap.size) (he : o.ents.length ≤ 10000) (hp : o.parents.length ≤ 10000) :
    Calls Try.prog 12 #[.agg (objC o A c P d)] w fun e w' => (∃ A2 c2, e = .returned (.slice A2 (namesF o).length c2) ∧ Strs w' w'.heap.size A2 (namesF o)) ∧ Below w.heap.size w w' := by
  obtain ⟨i0, E⟩ := st_elem
  have HE := Lib.hid E
  have HP := Lib.hid (keep_new (c := c) (d := d) hl hB)
  have hln : (edgesF o).length ≤ 10001 := edges_few he hp
  have HC := Lib.hid (dOf_any (w.alloc (.cells (objC o A c P d) 25 (0, 0))) B o A c P d ⟨HP.out.ents, HP.out.pars⟩ (Nat.le_trans hB (by simp)) he hp)
  have hIl : (idsF o).length = (edgesF o).length := ids_len o
  have HID := Lib.hid (fun i (hi : i < (edgesF o).length) => getD_ids o hi)
  unfold namesF
  clear hl E he hp
  generalize hL : idsF o = L at *
  generalize hQ : edgesF o = Q at *
  obtain ⟨n, hn⟩ : ∃ n, Q.length = n := ⟨_, rfl⟩
  rw [hn] at HC hln hIl HID
  have HNL := Lib.hid (And.intro hIl hn)
  have HTL := Lib.hid (show ∀ k, k ≤ n → (L.take k).length = k from fun k h => by rw [List.length_take]; omega)
  have HTK := Lib.hid (show ∀ k, k < n → L.take (k + 1) = L.take k ++ [L.getD k default] from fun k h => take_snoc (by omega))
  obtain ⟨c0, c1, c2', c3', c4, c5, c6, c7, c8, c9⟩ := HP.out.box.a.ten
  clear hL hQ hIl hn
  go_enter Try.func12, Try.ntmps12
  go_wp2_with (go_at_call 9; refine HC.out.mono ?_; rintro r w2 ⟨⟨A2, c2, rfl, hrow⟩, hb2⟩)
  have HQ := Lib.hid (ed_recs hrow)
  rw [World.size_alloc] at hb2
  have HP2 := Lib.hid (HP.out.step hB hb2)
  clear hrow hb2 HC HP c0 c1 c2' c3' c4 c5 c6 c7 c8 c9
  go_loopg [3, 5] n (fun g' v i wr => ∃ (k : Nat) (A3 : Option Addr) (c3 : Nat), k ≤ n ∧ g' = n - k ∧ i = .int .i64 k ∧ v = .slice A3 k c3 ∧ Below w2.heap.size w2 wr ∧ wr.ownsRow w2.heap.size 9 1 (.slice A3 k c3) k ((L.take k).flatMap stV))
  case atStart => exact ⟨0, none, 0, Nat.zero_le _, rfl, rfl, rfl, Below.refl _ _, World.ownsRow_nil _ _ _ _⟩
  case round =>
    obtain ⟨k, A3, c3, hkl, rfl, rfl, rfl, hbl, hown⟩ := hrel
    have HO := Lib.hid (And.intro hbl hown)
    clear hbl hown
    by_cases hlt : k < n
    · have h1 : (k : Int) < n := by omega
      have h0 : (0 : Int) ≤ k := by omega
      obtain ⟨ad2, e, hB1, hc⟩ := (HQ.out.below HO.out.1) k (by rw [HNL.out.2]; exact hlt)
      have m0 : wr.cell? (ad2.add (k * 2)) = some (.string (Q.getD k default).1) := by have := hc 0 (by omega); rwa [show (ad2.add (k * 2)).add 0 = ad2.add (k * 2) from rfl] at this
      rw [← HID.out k hlt] at m0
      have HS := Lib.hid (HTK.out k hlt)
      have hlen := HTL.out k hkl
      have hlk := HTL.out (k + 1) hlt
      have hw1 : IntKind.i64.wrap ((k : Int) + 1) = (k : Int) + 1 := IntWalk.i64_in _ (by omega)
      generalize L.getD k default = x at *
      subst e
      clear hc
      obtain ⟨A4, c4, y1, hrun, ho1, hb1⟩ := app_one HE.out stV_len stV_one wr w2.heap.size A3 c3 (L.take k) x 23 (by rw [hlen]; exact HO.out.2) (by omega) HO.out.1.size
      rw [← HS.out, hlk] at hrun ho1
      simp only [stV, hlen] at hrun
      have HRUN := Lib.hid hrun
      have HX := Lib.hid (And.intro ho1 (HO.out.1.trans hb1))
      clear hrun ho1 hb1
      go_wp2_with (at_builtin; refine wpList_append_run rfl (.tmp 14) (.tmp 20) 23 23 rfl _ _ _ y1 rfl rfl HRUN.out ?_)
      go_roundg (n - (k + 1))
      case rel => exact ⟨k + 1, A4, c4, by omega, rfl, by go_num, rfl, HX.out.2, HX.out.1⟩
      case measure => omega
    · have h1 : ¬ (k : Int) < n := by omega
      obtain rfl : k = n := by omega
      have HF := Lib.hid (show L.take k = L from List.take_of_length_le (by have := HNL.out.1; omega))
      rw [HF.out] at HO
      have HRI := Lib.hid (show Calls Try.prog 27 #[.slice A3 k c3] wr fun e w' => (∃ A2 c2, e = .returned (.slice A2 (riseF L).length c2) ∧ Strs w' w'.heap.size A2 (riseF L)) ∧ Below wr.heap.size wr w' from by
        have h9 := dRise_any wr wr.heap.size A3 c3 L (plain_strs HO.out.2) (Nat.le_refl _) (by rw [HNL.out.1]; omega)
        rwa [HNL.out.1] at h9)
      have HBW := Lib.hid (HP2.out.box.below.trans (HO.out.1.mono HP2.out.box.below.size))
      go_wp2_with (go_at_call 27; refine HRI.out.mono ?_; rintro r w4 ⟨⟨A5, c5, rfl, hst⟩, hb4⟩)
      go_ret
      exact ⟨⟨A5, c5, rfl, hst⟩, HBW.out.trans (hb4.mono HBW.out.size)⟩
end Go.Proofs.Ytlpidedijknohaa.Hq
