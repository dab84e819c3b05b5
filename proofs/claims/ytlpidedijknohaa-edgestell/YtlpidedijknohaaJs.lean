/-
  Layer 12: an object's edges, its names, and it with other names, as the document has them (EdgesTell): the law's walk.
-/
import Derived.Test.YtlpidedijknohaaJr
namespace Go.Proofs.Ytlpidedijknohaa.Hq
open Go.RowKit Ob Hr Hj Eg Hw
set_option linter.unusedVariables false

set_option maxHeartbeats 32000000 in
set_option maxRecDepth 100000 in
theorem tellLaw_any (o : Thing) (A : Option Addr) (c : Nat) (P : Option Addr) (d : Nat) (stop tv : Int) (hst : (Lit.int .i64 stop).wf = true) (htv : (Lit.int .u8 tv).wf = true) (w : World) (hl : Lies w w.heap.size o A P) (hr : Hj.Reach o) :
    Calls Try.prog 3 #[.agg (objC o A c P d), .int .i64 stop, .int .u8 tv] w fun e w' => e = .returned (.bool true) ∧ Below w.heap.size w w' := by
  obtain ⟨t, rfl⟩ : ∃ t : UInt8, tv = t.toNat := ⟨UInt8.ofNat tv.toNat, by
    have := bounds_u8 htv
    rw [UInt8.toNat_ofNat', Nat.mod_eq_of_lt (by omega)]; omega⟩
  obtain ⟨i1, E1⟩ := st_elem
  have HE1 := Lib.hid E1
  clear E1
  have HA := Lib.hid awake12_any
  have HW := Lib.hid (fun W (h : Lies W W.heap.size o A P) => few_any W W.heap.size o A c P d h (Nat.le_refl _) hr)
  have HP := Lib.hid (bt_new (c := c) (d := d) (stop := stop) hl)
  clear hl hr htv
  cases hf : few o with
  | false =>
    rw [hf] at HW
    clear hf
    go_enter Try.func3, Try.ntmps3
    go_wp2_with (first | (go_at_call 6; refine (HA.out _).mono ?_; rintro r w5 ⟨rfl, hb5⟩; have HP := Lib.hid (HP.out.step hb5); obtain ⟨c0, c1, c2, c3, c4, c5, c6, c7, c8, c9⟩ := HP.out.ob.ten; clear hb5) | (go_at_call 7; refine (HW.out _ HP.out.all).mono ?_; rintro r w5 ⟨rfl, hb5⟩; have HP := Lib.hid (HP.out.step hb5); clear hb5))
    go_ret
    exact ⟨rfl, HP.out.below⟩
  | true =>
      have hs := few_small hf
      rw [hf] at HW
      clear hf
      have hmf : ∀ (fn : Fn) (first cap : Array Value) (w : World), (Instr.makeFunc fn first cap).run Try.prog w = .ok (.func fn first cap) w := fun _ _ _ _ => rfl
      have hn1 := hs.ents
      have hn2 := hs.pars
      have hln := edges_few (o := o) (by omega) (by omega)
      have hnl := names_le o
      have HOF := Lib.hid (fun W (h : Lies W W.heap.size o A P) => pOf_any W W.heap.size o A c P d h (Nat.le_refl _) (by omega) (by omega))
      have HDF := Lib.hid (fun W (h : Lies W W.heap.size o A P) => dOf_any W W.heap.size o A c P d h (Nat.le_refl _) (by omega) (by omega))
      have HNM := Lib.hid (fun W (h : Lies W W.heap.size o A P) => pNames_any W W.heap.size o A c P d h (Nat.le_refl _) (by omega) (by omega))
      have HDN := Lib.hid (fun W (h : Lies W W.heap.size o A P) => dNames_any W W.heap.size o A c P d h (Nat.le_refl _) (by omega) (by omega))
      have HTX := Lib.hid (fun W A' c' A'' c'' (h1 : Strs W W.heap.size A' (namesF o)) (h2 : Strs W W.heap.size A'' (namesF o)) => texts_self (c := c') (c' := c'') h1 h2 (by omega) (Nat.le_refl _))
      have HSM := Lib.hid (fun W (q : Thing) A' c' P' d' A'' c'' P'' d'' (h1 : Lies W W.heap.size q A' P') (h2 : Lies W W.heap.size q A'' P'') (hq1 : q.ents.length ≤ 1000000) (hq2 : q.parents.length ≤ 1000000) => show Calls Try.prog 15 #[.agg (objC q A' c' P' d'), .agg (objC q A'' c'' P'' d'')] W fun e w' => e = .returned (.bool true) ∧ Below W.heap.size W w' from by have := same_any W W.heap.size q q A' c' P' d' A'' c'' P'' d'' h1 h2 (Nat.le_refl _) hq1 hq2; rwa [same_self] at this)
      obtain ⟨OL, hOL⟩ : ∃ OL, (idsF o).map ((⟨#[t]⟩ : ByteArray) ++ ·) = OL := ⟨_, rfl⟩
      have hOl : OL.length = (edgesF o).length := by rw [← hOL, List.length_map, ids_len]
      have HOG := Lib.hid (show ∀ i, i < (edgesF o).length → OL.getD i ByteArray.empty = (⟨#[t]⟩ : ByteArray) ++ ((edgesF o).getD i default).1 from fun i hi => by
        rw [← hOL, ← getD_ids o hi]
        exact getD_map (fun s => (⟨#[t]⟩ : ByteArray) ++ s) (by rw [ids_len]; exact hi))
      have HSI := Lib.hid (show ∀ i, i < (edgesF o).length → ((edgesF o).getD i default).1.size ≤ 100000 from fun i hi => ids_small hs hi)
      have HWL := Lib.hid (with_lens hOl)
      have HMP := Lib.hid (fun W told er f lb S F hS hl j hj h0 h1 => pMap_any W o A c P d told er f lb S F hS hl (by omega) (by omega) j hj h0 h1)
      have HDW := Lib.hid (fun W Al cl (hl : Lies W W.heap.size o A P) (hs : Strs W W.heap.size Al OL) (hcl : OL.length ≤ cl) => dWith_any W o A c P d Al cl OL hl hs hOl hcl (by omega) (by omega))
      clear hOL hs
      obtain ⟨n, hn⟩ : ∃ n, (edgesF o).length = n := ⟨_, rfl⟩
      obtain ⟨Q, hQ⟩ : ∃ Q, edgesF o = Q := ⟨_, rfl⟩
      have HQN := Lib.hid (show Q.length = n from by rw [← hQ]; exact hn)
      have HQE := Lib.hid hQ
      rw [hn] at HOF HDF hln hnl hOl HOG HSI
      rw [hQ] at HOF HDF HOG HSI
      have HON := Lib.hid hOl
      clear hn hQ hOl
      go_enter Try.func3, Try.ntmps3
      go_upto_region 5 with (first | (go_at_call 6; refine (HA.out _).mono ?_; rintro r w5 ⟨rfl, hb5⟩; have HP := Lib.hid (HP.out.step hb5); obtain ⟨c0, c1, c2, c3, c4, c5, c6, c7, c8, c9⟩ := HP.out.ob.ten; clear hb5) | (go_at_call 7; refine (HW.out _ HP.out.all).mono ?_; rintro r w6 ⟨rfl, hb5⟩; have HP := Lib.hid (HP.out.step hb5); clear hb5 c0 c1 c2 c3 c4 c5 c6 c7 c8 c9))
      have HP := Lib.hid (HP.out.step (Below.refl _ w6).drew)
      refine wp_region_tree (fun W => BoxAt W w.heap.size 25 (objC o A c P d)) (.take 0 0 (.take 2 1 (.fork 1 4 5 (.fork 3 4 7 (.call 4 15 (.take 5 31 (.call 6 63 .done))) (.call 3 23 (.take 5 31 (.call 6 63 .done)))) (.call 1 21 (.call 3 23 (.take 5 31 (.call 6 63 .done))))))) 7 (by kernel_rfl) (by kernel_rfl) (by kernel_rfl) (fun d _ _ _ _ h => by cases d <;> exact h) (by kernel_rfl) HP.out.ob ?_
      generalize w6.drew = W0 at *
      refine trH_take (.agg (objC o A c P d)) rfl (yields_load 25 (.tmp 3) rfl (by rfl) w.heap.size rfl 25 _ (0, 0) _ (fun W hW => hW) Try.underlying25 rfl ob_size) ?_
      go_simp
      refine trH_take (.agg (objC o A c P d)) rfl (yields_load 25 (.tmp 3) rfl (by rfl) w.heap.size rfl 25 _ (0, 0) _ (fun W hW => hW) Try.underlying25 rfl ob_size) ?_
      go_simp
      refine trH_fork rfl (by rfl) rfl (by rfl) (fun K hK => ?_) (fun K hK => ?_)
      · have HK := Lib.hid hK
        clear hK
        go_simp
        refine (HOF.out _ HP.out.all).mono ?_
        rintro r w7 ⟨⟨Ae, ce, rfl, hre⟩, hb7⟩
        have HE := Lib.hid (ed_rec2 hre)
        replace HP := Lib.hid (HP.out.step hb7)
        clear hb7 hre
        refine HK.out _ _ HP.out.ob ?_
        clear HK K
        go_simp
        refine trH_fork rfl (by rfl) rfl (by rfl) (fun K hK => ?_) (fun K hK => ?_)
        · have HK := Lib.hid hK
          clear hK
          go_simp
          refine (HDF.out _ HP.out.all).mono ?_
          rintro r w8 ⟨⟨Am, cm, rfl, hrm⟩, hb8⟩
          have HM := Lib.hid (ed_rec2 hrm)
          replace HP := Lib.hid (HP.out.step hb8)
          replace HE := Lib.hid ((HE.out.below hb8).mono hb8.size)
          clear hb8 hrm
          refine HK.out _ _ HP.out.ob ?_
          clear HK K
          go_simp
          refine trH_call rfl (by rfl) (fun K hK => ?_)
          have HK := Lib.hid hK
          clear hK
          go_simp
          have HGM := Lib.hid (show w.heap.size + 2 ≤ w8.heap.size from HP.out.sb.lt)
          have hba : Below w8.heap.size w8 (w8.alloc (.cells #[.slice none 0 0] 30 (0, 0))) := (Below.refl _ _).alloc (Nat.le_refl _) _
          have HBX := Lib.hid (box_new w8 30 #[.slice none 0 0])
          replace HP := Lib.hid (HP.out.step hba)
          replace HE := Lib.hid ((HE.out.below hba).mono hba.size)
          replace HM := Lib.hid ((HM.out.below hba).mono hba.size)
          clear hba
          refine HK.out _ _ HP.out.ob ?_
          clear HK K
          generalize w8.alloc (.cells #[.slice none 0 0] 30 (0, 0)) = wa at *
          generalize w8.heap.size = gm at *
          go_simp
          refine trH_take (.slice Ae n ce) rfl (Or.inl ⟨by rfl, fun W _ => by go_simp⟩) ?_
          go_simp
          refine trH_call rfl (by rfl) (fun K hK => ?_)
          have HK := Lib.hid hK
          clear hK
          have f0 := HBX.out.free 0
          have k0 := HBX.out.cell 0
          go_simp
          have HTL := Lib.hid (tl_start HP.out HBX.out HGM.out HM.out HE.out (n := n) (cm := cm))
          refine HK.out _ _ HTL.out.ob ?_
          clear HK K f0 k0
          generalize wa.setCell ⟨gm, 0, none⟩ (.slice Am n cm) = W7 at *
          go_simp
          refine trH_done ?_
          clear HP HBX HM HE
          go_wp2_with fail
          have HTL := Lib.hid (HTL.out.step (Below.refl _ W7).drew)
          refine wp_region_seq (fun W => BoxAt W w.heap.size 25 (objC o A c P d) ∧ BoxAt W gm 30 #[.slice Am n cm]) [(0, false, 0), (1, false, 1), (2, false, 3), (3, false, 7), (4, false, 15), (5, false, 31), (6, false, 63), (8, false, 127), (7, true, 383), (9, true, 511), (10, true, 1023), (11, false, 2047), (12, false, 4095)]
            13 (by kernel_rfl) (by kernel_rfl) (by kernel_rfl) (fun d _ _ _ _ h => by cases d <;> exact h) (by kernel_rfl) (by kernel_rfl) ⟨HTL.out.ob, HTL.out.mb⟩ ?_
          generalize W7.drew = W9 at *
          refine seqH_take (.slice Ae n ce) rfl (Or.inl ⟨by rfl, fun W hW => by clear hW; go_simp⟩) ?_
          go_simp
          refine seqH_take (.int .i64 n) rfl (Or.inl ⟨by rfl, fun W hW => by clear hW; go_simp⟩) ?_
          go_simp
          refine seqH_take (.slice Am n cm) rfl (Or.inl ⟨by rfl, fun W hW => by have hx := hW.2.cell 0; clear hW; go_simp⟩) ?_
          go_simp
          refine seqH_take (.int .i64 n) rfl (Or.inl ⟨by rfl, fun W hW => by clear hW; go_simp⟩) ?_
          go_simp
          refine seqH_take (.bool false) rfl (Or.inl ⟨by rfl, fun W hW => by clear hW; go_simp⟩) ?_
          go_simp
          refine seqH_take (.bool false) rfl (Or.inl ⟨by rfl, fun W hW => by clear hW; go_simp⟩) ?_
          go_simp
          refine seqH_take (.agg (objC o A c P d)) rfl (yields_load 25 (.tmp 3) rfl (by rfl) w.heap.size rfl 25 _ (0, 0) _ (fun W hW => hW.1) Try.underlying25 rfl ob_size) ?_
          go_simp
          refine seqH_take (.agg (objC o A c P d)) rfl (yields_load 25 (.tmp 3) rfl (by rfl) w.heap.size rfl 25 _ (0, 0) _ (fun W hW => hW.1) Try.underlying25 rfl ob_size) ?_
          go_simp
          refine seqH_call rfl (by rfl) (fun K hK => ?_)
          have HK := Lib.hid hK
          clear hK
          go_simp
          refine (HNM.out _ HTL.out.all).mono ?_
          rintro r w10 ⟨⟨A1, c1, rfl, hst1⟩, hb10⟩
          have HS1 := Lib.hid hst1
          replace HTL := Lib.hid (HTL.out.step hb10)
          clear hst1 hb10
          refine HK.out _ _ ⟨HTL.out.ob, HTL.out.mb⟩ ?_
          clear HK K
          go_simp
          refine seqH_call rfl (by rfl) (fun K hK => ?_)
          have HK := Lib.hid hK
          clear hK
          go_simp
          refine (HDN.out _ HTL.out.all).mono ?_
          rintro r w11 ⟨⟨A2, c2, rfl, hst2⟩, hb11⟩
          have HS2 := Lib.hid hst2
          replace HS1 := Lib.hid (strs_mono (HS1.out.below hb11) hb11.size)
          replace HTL := Lib.hid (HTL.out.step hb11)
          clear hst2 hb11
          refine HK.out _ _ ⟨HTL.out.ob, HTL.out.mb⟩ ?_
          clear HK K
          go_simp
          refine seqH_call rfl (by rfl) (fun K hK => ?_)
          have HK := Lib.hid hK
          clear hK
          go_simp
          refine (HTX.out _ _ _ _ _ HS1.out HS2.out).mono ?_
          rintro r W8 ⟨rfl, hb12⟩
          replace HTL := Lib.hid (HTL.out.step hb12)
          clear hb12
          refine HK.out _ _ ⟨HTL.out.ob, HTL.out.mb⟩ ?_
          clear HK K
          go_simp
          refine seqH_take (.bool false) rfl (Or.inl ⟨by rfl, fun W hW => by clear hW; go_simp⟩) ?_
          go_simp
          refine seqH_take (.bool false) rfl (Or.inl ⟨by rfl, fun W hW => by clear hW; go_simp⟩) ?_
          go_simp
          refine seqH_done ?_
          clear HS1 HS2
          have HG8 := Lib.hid (box_new W8 23 #[.slice none 0 0])
          have HB8 := Lib.hid (show Below W8.heap.size W8 (W8.alloc (.cells #[.slice none 0 0] 23 (0, 0))) from (Below.refl _ W8).alloc (Nat.le_refl _) _)
          go_wp2_with fail
          go_loopg [10] n (fun g v wr => ∃ (k : Nat) (Ao : Option Addr) (co : Nat), k ≤ n ∧ g = n - k ∧ v = .int .i64 k ∧ Below W8.heap.size W8 wr ∧ BoxAt wr W8.heap.size 23 #[.slice Ao k co] ∧ wr.ownsRow (W8.heap.size + 1) 9 1 (.slice Ao k co) k ((OL.take k).flatMap stV))
          case atStart => exact ⟨0, none, 0, Nat.zero_le _, rfl, rfl, HB8.out, HG8.out, World.ownsRow_nil _ _ _ _⟩
          case round =>
            obtain ⟨k, Ao, co, hkn, rfl, rfl, hbl, hgo, hrw⟩ := hrel
            have HT := Lib.hid (HTL.out.step hbl)
            by_cases hlt : k < n
            · have h1 : (k : Int) < n := by omega
              have h0 : (0 : Int) ≤ k := by omega
              have hw1 : IntKind.i64.wrap ((k : Int) + 1) = (k : Int) + 1 := IntWalk.i64_in _ (by omega)
              obtain ⟨ade, ee, k1, k2⟩ := edge_cells HT.out.hl (i := k) (by have := HQN.out; omega)
              obtain ⟨adm, em, m1, m2⟩ := edge_cells HT.out.hm (i := k) (by have := HQN.out; omega)
              obtain ⟨adm', em', n1, _⟩ := edge_cells HTL.out.hm (i := k) (by have := HQN.out; omega)
              rw [em] at em'
              injection em' with em'
              subst em'
              have hOk := HOG.out k hlt
              have hsz := HSI.out k hlt
              have hts : OL.take (k + 1) = OL.take k ++ [OL.getD k ByteArray.empty] := take_snoc (by have := HON.out; omega)
              rw [hOk] at hts
              have hlen : (OL.take k).length = k := by rw [List.length_take]; have := HON.out; omega
              have hlk : (OL.take (k + 1)).length = k + 1 := by rw [List.length_take]; have := HON.out; omega
              generalize Q.getD k default = y at *
              obtain ⟨x, kd⟩ := y
              simp only at k1 k2 m1 m2 n1 hsz hts
              have HS := Lib.hid hts
              have hN := fun W => neq_ed x kd W
              have hcc : ¬ 9223372036854775807 < (⟨#[t]⟩ : ByteArray).size + x.size := by have : (⟨#[t]⟩ : ByteArray).size = 1 := rfl; omega
              have hcc2 : ¬ 9223372036854775807 < 1 + x.size := by omega
              have mb0 := HT.out.mb.cell 0
              have HGMW := Lib.hid (show gm < W8.heap.size from HTL.out.mb.lt)
              have HCX := Lib.hid (show ∀ W, BoxAt W gm 30 #[.slice Am n cm] → Below W8.heap.size W8 W → BoxAt W gm 30 #[.slice Am n cm] ∧ W.cell? (adm.add (k * 2)) = some (.string x) from fun W h hb => ⟨h, (hb.cell (World.block_lt_of_cell? _ _ n1)).trans n1⟩)
              have hdd : Below wr.heap.size wr wr.drew.drew := (Below.refl _ wr).drew.drew
              have HSS := Lib.hid (HCX.out wr.drew.drew (HT.out.step hdd).mb hbl.drew.drew)
              have HGO := Lib.hid (hgo.step hdd)
              have HRW := Lib.hid (own_step hrw hdd)
              have HBL := Lib.hid (show Below W8.heap.size W8 wr.drew.drew from hbl.drew.drew)
              replace HT := Lib.hid (HT.out.step hdd)
              subst ee em
              clear hbl hgo hrw hdd hts hOk n1
              go_wp2_with fail
              refine wp_region_still_lit (by kernel_rfl) (by kernel_rfl) ?_
              change wpStill _ _ (World.drew _) (fun a' => Exit.then _ _ _ a' (World.drew _)) _ _
              iterate 9 ((with_reducible refine wpStill_step ?_); intro K hK; go_simp; refine hK _ ?_; clear hK K)
              refine wpStill_nil ?_
              clear k1 k2 m1 m2 mb0
              go_wp2_with fail
              refine wp_region_tree (fun W => BoxAt W gm 30 #[.slice (some adm) n cm] ∧ W.cell? (adm.add (k * 2)) = some (.string x)) (.take 1 0 (.take 4 2 (.take 5 18 (.take 6 50 (.take 7 114 (.take 8 242 (.fork 0 2 498 (.call 2 499 (.call 3 503 (.take 9 511 (.call 10 1023 (.call 11 2047 (.call 12 4095 .done)))))) (.fork 0 3 502 (.call 3 503 (.take 9 511 (.call 10 1023 (.call 11 2047 (.call 12 4095 .done))))) (.take 9 510 (.fork 0 10 1022 (.call 10 1023 (.call 11 2047 (.call 12 4095 .done))) (.call 0 2046 (.call 11 2047 (.call 12 4095 .done))))))))))))) 13 (by kernel_rfl) (by kernel_rfl) (by kernel_rfl) (fun d _ _ _ _ h => by cases d <;> exact h) (by kernel_rfl) HSS.out ?_
              generalize hW0 : wr.drew.drew = W0 at *
              clear hW0
              refine trH_take (.int .u8 t.toNat) rfl (Or.inl ⟨by rfl, fun W hW => by clear hW; go_simp⟩) ?_
              go_simp
              refine trH_take (.slice (some adm) n cm) rfl (Or.inl ⟨by rfl, fun W hW => by have hx := hW.1.cell 0; clear hW; go_simp⟩) ?_
              go_simp
              refine trH_take (.int .i64 k) rfl (Or.inl ⟨by rfl, fun W hW => by clear hW; go_simp⟩) ?_
              go_simp
              refine trH_take (.pointer (some (adm.add (k * 2)))) rfl (Or.inl ⟨by rfl, fun W hW => by clear hW; go_simp⟩) ?_
              go_simp
              refine trH_take (.pointer (some (adm.add (k * 2)))) rfl (Or.inl ⟨by rfl, fun W hW => by clear hW; go_simp⟩) ?_
              go_simp
              refine trH_take (.string x) rfl (Or.inl ⟨by rfl, fun W hW => by have hx := hW.2; clear hW; go_simp⟩) ?_
              go_simp
              refine trH_fork rfl (by rfl) rfl (by rfl) (fun K hK => ?_) (fun K hK => ?_)
              · have HK := Lib.hid hK
                clear hK
                have k0 : W0.cell? ⟨W8.heap.size, 0, none⟩ = some (.slice Ao k co) := HGO.out.cell 0
                go_simp
                refine HK.out _ _ HSS.out ?_
                clear HK K k0
                go_simp
                refine trH_call rfl (by rfl) (fun K hK => ?_)
                have HK := Lib.hid hK
                clear hK
                go_simp
                have hba : Below W0.heap.size W0 (W0.alloc (.cells #[.int .u8 t.toNat] 5)) := (Below.refl _ _).alloc (Nat.le_refl _) _
                have HBB := Lib.hid (box_new W0 5 #[.int .u8 t.toNat])
                have HWZ := Lib.hid (show W0.heap.size < (W0.alloc (.cells #[.int .u8 t.toNat] 5)).heap.size from by simp)
                replace HT := Lib.hid (HT.out.step hba)
                replace HGO := Lib.hid (HGO.out.step hba)
                replace HRW := Lib.hid (own_step HRW.out hba)
                replace HBL := Lib.hid (HBL.out.trans (hba.mono HBL.out.size))
                replace HSS := Lib.hid (And.intro (HSS.out.1.step hba) ((hba.cell (World.block_lt_of_cell? _ _ HSS.out.2)).trans HSS.out.2))
                clear hba
                refine HK.out _ _ HSS.out ?_
                clear HK K
                generalize W0.alloc (.cells #[.int .u8 t.toNat] 5) = y1 at *
                generalize W0.heap.size = gb at *
                go_simp
                refine trH_call rfl (by rfl) (fun K hK => ?_)
                have HK := Lib.hid hK
                clear hK
                have hcv := conv_one HBB.out
                go_simp
                refine HK.out _ _ HSS.out ?_
                clear HK K hcv
                go_simp
                refine trH_take (.string ((⟨#[t]⟩ : ByteArray) ++ x)) rfl (Or.inl ⟨by rfl, fun W hW => by clear hW; go_simp⟩) ?_
                go_simp
                refine trH_call rfl (by rfl) (fun K hK => ?_)
                have HK := Lib.hid hK
                clear hK
                go_simp
                have HAP := Lib.hid (app_one HE1.out stV_len stV_one y1 (W8.heap.size + 1) Ao co (OL.take k) ((⟨#[t]⟩ : ByteArray) ++ x) 23 (by rw [hlen]; exact HRW.out) (by omega) HGO.out.lt)
                have hba : Below y1.heap.size y1 (y1.alloc (.cells #[.string ((⟨#[t]⟩ : ByteArray) ++ x)] 9)) := (Below.refl _ _).alloc (Nat.le_refl _) _
                replace HSS := Lib.hid (And.intro (HSS.out.1.step hba) ((hba.cell (World.block_lt_of_cell? _ _ HSS.out.2)).trans HSS.out.2))
                have HGO2 := Lib.hid (HGO.out.step hba)
                clear hba
                refine HK.out _ _ HSS.out ?_
                clear HK K
                go_simp
                refine trH_call rfl (by rfl) (fun K hK => ?_)
                have HK := Lib.hid hK
                clear hK
                obtain ⟨A4, c4, y2, hrun, ho1, hb1⟩ := HAP.out
                rw [← HS.out, hlk] at hrun ho1
                simp only [stV, hlen] at hrun
                have HRUN := Lib.hid hrun
                have HSS3 := Lib.hid (show BoxAt y2 gm 30 #[.slice (some adm) n cm] from (hb1.block _ (by have := HGMW.out; omega)).trans HT.out.mb)
                have HGO3 := Lib.hid (show BoxAt y2 W8.heap.size 23 #[.slice Ao k co] from (hb1.block _ (by omega)).trans HGO.out)
                have HBL3 := Lib.hid (HBL.out.trans (hb1.mono (by omega)))
                have HRW3 := Lib.hid ho1
                clear hrun ho1 hb1
                unfold Oper.wp
                simp [execOp, resolve, invoke, builtin, Act.eval, HRUN.out, Result.andThen, Oper.upon]
                refine HK.out _ _ (HCX.out _ HSS3.out HBL3.out) ?_
                clear HK K HRUN
                go_simp
                refine trH_call rfl (by rfl) (fun K hK => ?_)
                have HK := Lib.hid hK
                clear hK
                have f0 := HGO3.out.free 0
                have k0 := HGO3.out.cell 0
                go_simp
                have HFIN := Lib.hid (show Below W8.heap.size W8 (y2.setCell ⟨W8.heap.size, 0, none⟩ (.slice A4 (k + 1) c4)) ∧ BoxAt (y2.setCell ⟨W8.heap.size, 0, none⟩ (.slice A4 (k + 1) c4)) W8.heap.size 23 #[.slice A4 (k + 1) c4] ∧ (y2.setCell ⟨W8.heap.size, 0, none⟩ (.slice A4 (k + 1) c4)).ownsRow (W8.heap.size + 1) 9 1 (.slice A4 (k + 1) c4) (k + 1) ((OL.take (k + 1)).flatMap stV) from ⟨HBL3.out.setCell (p := ⟨W8.heap.size, 0, none⟩) (Nat.le_refl _) _, Hg.heap_setCell_cells HGO3.out 0 _, own_set1 HRW3.out⟩)
                have HMB := Lib.hid (show BoxAt (y2.setCell ⟨W8.heap.size, 0, none⟩ (.slice A4 (k + 1) c4)) gm 30 #[.slice (some adm) n cm] from (Below.heap_setCell _ _ _ _ (by have := HGMW.out; show gm ≠ W8.heap.size; omega)).trans HSS3.out)
                refine HK.out _ _ (HCX.out _ HMB.out HFIN.out.1) ?_
                clear HK K f0 k0
                go_simp
                refine trH_done ?_
                go_wp2
                go_roundg (n - (k + 1))
                case rel => exact ⟨k + 1, A4, c4, by omega, rfl, by go_num, HFIN.out.1, HFIN.out.2.1, HFIN.out.2.2⟩
                case measure => omega
              · have HK := Lib.hid hK
                clear hK
                go_simp
                have hba : Below W0.heap.size W0 (W0.alloc (.cells #[.int .u8 t.toNat] 5)) := (Below.refl _ _).alloc (Nat.le_refl _) _
                have HBB := Lib.hid (box_new W0 5 #[.int .u8 t.toNat])
                have HWZ := Lib.hid (show W0.heap.size < (W0.alloc (.cells #[.int .u8 t.toNat] 5)).heap.size from by simp)
                replace HT := Lib.hid (HT.out.step hba)
                replace HGO := Lib.hid (HGO.out.step hba)
                replace HRW := Lib.hid (own_step HRW.out hba)
                replace HBL := Lib.hid (HBL.out.trans (hba.mono HBL.out.size))
                replace HSS := Lib.hid (And.intro (HSS.out.1.step hba) ((hba.cell (World.block_lt_of_cell? _ _ HSS.out.2)).trans HSS.out.2))
                clear hba
                refine HK.out _ _ HSS.out ?_
                clear HK K
                generalize W0.alloc (.cells #[.int .u8 t.toNat] 5) = y1 at *
                generalize W0.heap.size = gb at *
                go_simp
                refine trH_fork rfl (by rfl) rfl (by rfl) (fun K hK => ?_) (fun K hK => ?_)
                · have HK := Lib.hid hK
                  clear hK
                  have k0 : y1.cell? ⟨W8.heap.size, 0, none⟩ = some (.slice Ao k co) := HGO.out.cell 0
                  go_simp
                  refine HK.out _ _ HSS.out ?_
                  clear HK K k0
                  go_simp
                  refine trH_call rfl (by rfl) (fun K hK => ?_)
                  have HK := Lib.hid hK
                  clear hK
                  have hcv := conv_one HBB.out
                  go_simp
                  refine HK.out _ _ HSS.out ?_
                  clear HK K hcv
                  go_simp
                  refine trH_take (.string ((⟨#[t]⟩ : ByteArray) ++ x)) rfl (Or.inl ⟨by rfl, fun W hW => by clear hW; go_simp⟩) ?_
                  go_simp
                  refine trH_call rfl (by rfl) (fun K hK => ?_)
                  have HK := Lib.hid hK
                  clear hK
                  go_simp
                  have HAP := Lib.hid (app_one HE1.out stV_len stV_one y1 (W8.heap.size + 1) Ao co (OL.take k) ((⟨#[t]⟩ : ByteArray) ++ x) 23 (by rw [hlen]; exact HRW.out) (by omega) HGO.out.lt)
                  have hba : Below y1.heap.size y1 (y1.alloc (.cells #[.string ((⟨#[t]⟩ : ByteArray) ++ x)] 9)) := (Below.refl _ _).alloc (Nat.le_refl _) _
                  replace HSS := Lib.hid (And.intro (HSS.out.1.step hba) ((hba.cell (World.block_lt_of_cell? _ _ HSS.out.2)).trans HSS.out.2))
                  have HGO2 := Lib.hid (HGO.out.step hba)
                  clear hba
                  refine HK.out _ _ HSS.out ?_
                  clear HK K
                  go_simp
                  refine trH_call rfl (by rfl) (fun K hK => ?_)
                  have HK := Lib.hid hK
                  clear hK
                  obtain ⟨A4, c4, y2, hrun, ho1, hb1⟩ := HAP.out
                  rw [← HS.out, hlk] at hrun ho1
                  simp only [stV, hlen] at hrun
                  have HRUN := Lib.hid hrun
                  have HSS3 := Lib.hid (show BoxAt y2 gm 30 #[.slice (some adm) n cm] from (hb1.block _ (by have := HGMW.out; omega)).trans HT.out.mb)
                  have HGO3 := Lib.hid (show BoxAt y2 W8.heap.size 23 #[.slice Ao k co] from (hb1.block _ (by omega)).trans HGO.out)
                  have HBL3 := Lib.hid (HBL.out.trans (hb1.mono (by omega)))
                  have HRW3 := Lib.hid ho1
                  clear hrun ho1 hb1
                  unfold Oper.wp
                  simp [execOp, resolve, invoke, builtin, Act.eval, HRUN.out, Result.andThen, Oper.upon]
                  refine HK.out _ _ (HCX.out _ HSS3.out HBL3.out) ?_
                  clear HK K HRUN
                  go_simp
                  refine trH_call rfl (by rfl) (fun K hK => ?_)
                  have HK := Lib.hid hK
                  clear hK
                  have f0 := HGO3.out.free 0
                  have k0 := HGO3.out.cell 0
                  go_simp
                  have HFIN := Lib.hid (show Below W8.heap.size W8 (y2.setCell ⟨W8.heap.size, 0, none⟩ (.slice A4 (k + 1) c4)) ∧ BoxAt (y2.setCell ⟨W8.heap.size, 0, none⟩ (.slice A4 (k + 1) c4)) W8.heap.size 23 #[.slice A4 (k + 1) c4] ∧ (y2.setCell ⟨W8.heap.size, 0, none⟩ (.slice A4 (k + 1) c4)).ownsRow (W8.heap.size + 1) 9 1 (.slice A4 (k + 1) c4) (k + 1) ((OL.take (k + 1)).flatMap stV) from ⟨HBL3.out.setCell (p := ⟨W8.heap.size, 0, none⟩) (Nat.le_refl _) _, Hg.heap_setCell_cells HGO3.out 0 _, own_set1 HRW3.out⟩)
                  have HMB := Lib.hid (show BoxAt (y2.setCell ⟨W8.heap.size, 0, none⟩ (.slice A4 (k + 1) c4)) gm 30 #[.slice (some adm) n cm] from (Below.heap_setCell _ _ _ _ (by have := HGMW.out; show gm ≠ W8.heap.size; omega)).trans HSS3.out)
                  refine HK.out _ _ (HCX.out _ HMB.out HFIN.out.1) ?_
                  clear HK K f0 k0
                  go_simp
                  refine trH_done ?_
                  go_wp2
                  go_roundg (n - (k + 1))
                  case rel => exact ⟨k + 1, A4, c4, by omega, rfl, by go_num, HFIN.out.1, HFIN.out.2.1, HFIN.out.2.2⟩
                  case measure => omega
                · have HK := Lib.hid hK
                  clear hK
                  have hcv := conv_one HBB.out
                  go_simp
                  refine HK.out _ _ HSS.out ?_
                  clear HK K hcv
                  go_simp
                  refine trH_take (.string ((⟨#[t]⟩ : ByteArray) ++ x)) rfl (Or.inl ⟨by rfl, fun W hW => by clear hW; go_simp⟩) ?_
                  go_simp
                  refine trH_fork rfl (by rfl) rfl (by rfl) (fun K hK => ?_) (fun K hK => ?_)
                  · have HK := Lib.hid hK
                    clear hK
                    have k0 : y1.cell? ⟨W8.heap.size, 0, none⟩ = some (.slice Ao k co) := HGO.out.cell 0
                    go_simp
                    refine HK.out _ _ HSS.out ?_
                    clear HK K k0
                    go_simp
                    refine trH_call rfl (by rfl) (fun K hK => ?_)
                    have HK := Lib.hid hK
                    clear hK
                    go_simp
                    have HAP := Lib.hid (app_one HE1.out stV_len stV_one y1 (W8.heap.size + 1) Ao co (OL.take k) ((⟨#[t]⟩ : ByteArray) ++ x) 23 (by rw [hlen]; exact HRW.out) (by omega) HGO.out.lt)
                    have hba : Below y1.heap.size y1 (y1.alloc (.cells #[.string ((⟨#[t]⟩ : ByteArray) ++ x)] 9)) := (Below.refl _ _).alloc (Nat.le_refl _) _
                    replace HSS := Lib.hid (And.intro (HSS.out.1.step hba) ((hba.cell (World.block_lt_of_cell? _ _ HSS.out.2)).trans HSS.out.2))
                    have HGO2 := Lib.hid (HGO.out.step hba)
                    clear hba
                    refine HK.out _ _ HSS.out ?_
                    clear HK K
                    go_simp
                    refine trH_call rfl (by rfl) (fun K hK => ?_)
                    have HK := Lib.hid hK
                    clear hK
                    obtain ⟨A4, c4, y2, hrun, ho1, hb1⟩ := HAP.out
                    rw [← HS.out, hlk] at hrun ho1
                    simp only [stV, hlen] at hrun
                    have HRUN := Lib.hid hrun
                    have HSS3 := Lib.hid (show BoxAt y2 gm 30 #[.slice (some adm) n cm] from (hb1.block _ (by have := HGMW.out; omega)).trans HT.out.mb)
                    have HGO3 := Lib.hid (show BoxAt y2 W8.heap.size 23 #[.slice Ao k co] from (hb1.block _ (by omega)).trans HGO.out)
                    have HBL3 := Lib.hid (HBL.out.trans (hb1.mono (by omega)))
                    have HRW3 := Lib.hid ho1
                    clear hrun ho1 hb1
                    unfold Oper.wp
                    simp [execOp, resolve, invoke, builtin, Act.eval, HRUN.out, Result.andThen, Oper.upon]
                    refine HK.out _ _ (HCX.out _ HSS3.out HBL3.out) ?_
                    clear HK K HRUN
                    go_simp
                    refine trH_call rfl (by rfl) (fun K hK => ?_)
                    have HK := Lib.hid hK
                    clear hK
                    have f0 := HGO3.out.free 0
                    have k0 := HGO3.out.cell 0
                    go_simp
                    have HFIN := Lib.hid (show Below W8.heap.size W8 (y2.setCell ⟨W8.heap.size, 0, none⟩ (.slice A4 (k + 1) c4)) ∧ BoxAt (y2.setCell ⟨W8.heap.size, 0, none⟩ (.slice A4 (k + 1) c4)) W8.heap.size 23 #[.slice A4 (k + 1) c4] ∧ (y2.setCell ⟨W8.heap.size, 0, none⟩ (.slice A4 (k + 1) c4)).ownsRow (W8.heap.size + 1) 9 1 (.slice A4 (k + 1) c4) (k + 1) ((OL.take (k + 1)).flatMap stV) from ⟨HBL3.out.setCell (p := ⟨W8.heap.size, 0, none⟩) (Nat.le_refl _) _, Hg.heap_setCell_cells HGO3.out 0 _, own_set1 HRW3.out⟩)
                    have HMB := Lib.hid (show BoxAt (y2.setCell ⟨W8.heap.size, 0, none⟩ (.slice A4 (k + 1) c4)) gm 30 #[.slice (some adm) n cm] from (Below.heap_setCell _ _ _ _ (by have := HGMW.out; show gm ≠ W8.heap.size; omega)).trans HSS3.out)
                    refine HK.out _ _ (HCX.out _ HMB.out HFIN.out.1) ?_
                    clear HK K f0 k0
                    go_simp
                    refine trH_done ?_
                    go_wp2
                    go_roundg (n - (k + 1))
                    case rel => exact ⟨k + 1, A4, c4, by omega, rfl, by go_num, HFIN.out.1, HFIN.out.2.1, HFIN.out.2.2⟩
                    case measure => omega
                  · have HK := Lib.hid hK
                    clear hK
                    go_simp
                    have HAP := Lib.hid (app_one HE1.out stV_len stV_one y1 (W8.heap.size + 1) Ao co (OL.take k) ((⟨#[t]⟩ : ByteArray) ++ x) 23 (by rw [hlen]; exact HRW.out) (by omega) HGO.out.lt)
                    have hba : Below y1.heap.size y1 (y1.alloc (.cells #[.string ((⟨#[t]⟩ : ByteArray) ++ x)] 9)) := (Below.refl _ _).alloc (Nat.le_refl _) _
                    replace HSS := Lib.hid (And.intro (HSS.out.1.step hba) ((hba.cell (World.block_lt_of_cell? _ _ HSS.out.2)).trans HSS.out.2))
                    have HGO2 := Lib.hid (HGO.out.step hba)
                    clear hba
                    refine HK.out _ _ HSS.out ?_
                    clear HK K
                    go_simp
                    refine trH_call rfl (by rfl) (fun K hK => ?_)
                    have HK := Lib.hid hK
                    clear hK
                    have k0 : (y1.alloc (.cells #[.string ((⟨#[t]⟩ : ByteArray) ++ x)] 9)).cell? ⟨W8.heap.size, 0, none⟩ = some (.slice Ao k co) := HGO2.out.cell 0
                    go_simp
                    refine HK.out _ _ HSS.out ?_
                    clear HK K k0
                    go_simp
                    refine trH_call rfl (by rfl) (fun K hK => ?_)
                    have HK := Lib.hid hK
                    clear hK
                    obtain ⟨A4, c4, y2, hrun, ho1, hb1⟩ := HAP.out
                    rw [← HS.out, hlk] at hrun ho1
                    simp only [stV, hlen] at hrun
                    have HRUN := Lib.hid hrun
                    have HSS3 := Lib.hid (show BoxAt y2 gm 30 #[.slice (some adm) n cm] from (hb1.block _ (by have := HGMW.out; omega)).trans HT.out.mb)
                    have HGO3 := Lib.hid (show BoxAt y2 W8.heap.size 23 #[.slice Ao k co] from (hb1.block _ (by omega)).trans HGO.out)
                    have HBL3 := Lib.hid (HBL.out.trans (hb1.mono (by omega)))
                    have HRW3 := Lib.hid ho1
                    clear hrun ho1 hb1
                    unfold Oper.wp
                    simp [execOp, resolve, invoke, builtin, Act.eval, HRUN.out, Result.andThen, Oper.upon]
                    refine HK.out _ _ (HCX.out _ HSS3.out HBL3.out) ?_
                    clear HK K HRUN
                    go_simp
                    refine trH_call rfl (by rfl) (fun K hK => ?_)
                    have HK := Lib.hid hK
                    clear hK
                    have f0 := HGO3.out.free 0
                    have k0 := HGO3.out.cell 0
                    go_simp
                    have HFIN := Lib.hid (show Below W8.heap.size W8 (y2.setCell ⟨W8.heap.size, 0, none⟩ (.slice A4 (k + 1) c4)) ∧ BoxAt (y2.setCell ⟨W8.heap.size, 0, none⟩ (.slice A4 (k + 1) c4)) W8.heap.size 23 #[.slice A4 (k + 1) c4] ∧ (y2.setCell ⟨W8.heap.size, 0, none⟩ (.slice A4 (k + 1) c4)).ownsRow (W8.heap.size + 1) 9 1 (.slice A4 (k + 1) c4) (k + 1) ((OL.take (k + 1)).flatMap stV) from ⟨HBL3.out.setCell (p := ⟨W8.heap.size, 0, none⟩) (Nat.le_refl _) _, Hg.heap_setCell_cells HGO3.out 0 _, own_set1 HRW3.out⟩)
                    have HMB := Lib.hid (show BoxAt (y2.setCell ⟨W8.heap.size, 0, none⟩ (.slice A4 (k + 1) c4)) gm 30 #[.slice (some adm) n cm] from (Below.heap_setCell _ _ _ _ (by have := HGMW.out; show gm ≠ W8.heap.size; omega)).trans HSS3.out)
                    refine HK.out _ _ (HCX.out _ HMB.out HFIN.out.1) ?_
                    clear HK K f0 k0
                    go_simp
                    refine trH_done ?_
                    go_wp2
                    go_roundg (n - (k + 1))
                    case rel => exact ⟨k + 1, A4, c4, by omega, rfl, by go_num, HFIN.out.1, HFIN.out.2.1, HFIN.out.2.2⟩
                    case measure => omega
            · have h1 : ¬ (k : Int) < n := by omega
              obtain rfl : k = n := by omega
              have HF := Lib.hid (show OL.take k = OL from List.take_of_length_le (by have := HON.out; omega))
              rw [HF.out] at hrw
              have HCAP := Lib.hid (own_le hrw)
              have HSO := Lib.hid (plain_strs hrw)
              have HGO := Lib.hid hgo
              obtain ⟨V, hV⟩ : ∃ V, V = wr := ⟨wr, rfl⟩
              subst hV
              have HBA := Lib.hid (show Below V.heap.size V (V.alloc (.cells #[.int .i64 0] 3 (0, 0))) from (Below.refl _ V).alloc (Nat.le_refl _) _)
              obtain ⟨c0, c1, c2, c3, c4, c5, c6, c7, c8, c9⟩ := (HT.out.step HBA.out).ob.ten
              clear hbl hgo hrw
              by_cases hin : 0 ≤ stop ∧ stop < k
              · have HMT := Lib.hid (mapStop HT.out HGO.out HSO.out HQN.out HON.out (by omega) HQE.out (by omega) (by omega) hin.1 hin.2)
                have s1 : (0 : Int) ≤ stop := hin.1
                have s2 : stop < k := hin.2
                have hw3 : IntKind.i64.wrap (stop + 1) = stop + 1 := IntWalk.i64_in _ (by omega)
                clear hin
                go_upto_region 17 with (go_at_call 13; refine HMT.out.mono ?_; rintro r w13 ⟨rfl, hb13, ha13⟩; have HT := Lib.hid (HT.out.step hb13); have HAK := Lib.hid ha13; clear hb13 ha13 c0 c1 c2 c3 c4 c5 c6 c7 c8 c9)
                have hba : Below w13.heap.size w13 (w13.alloc (.cells #[.int .i64 0, .string ⟨#[]⟩, .slice none 0 0, .string ⟨#[]⟩, .slice none 0 0, .string ⟨#[]⟩, .int .i64 0, .string ⟨#[]⟩, .string ⟨#[]⟩, .int .i64 0] 25 (0, 0))) := (Below.refl _ w13).alloc (Nat.le_refl _) _
                have HPB := Lib.hid (box_new w13 25 #[.int .i64 0, .string ⟨#[]⟩, .slice none 0 0, .string ⟨#[]⟩, .slice none 0 0, .string ⟨#[]⟩, .int .i64 0, .string ⟨#[]⟩, .string ⟨#[]⟩, .int .i64 0])
                replace HT := Lib.hid (HT.out.step hba)
                replace HAK := Lib.hid (HAK.out.step hba)
                clear hba
                generalize w13.alloc (.cells #[.int .i64 0, .string ⟨#[]⟩, .slice none 0 0, .string ⟨#[]⟩, .slice none 0 0, .string ⟨#[]⟩, .int .i64 0, .string ⟨#[]⟩, .string ⟨#[]⟩, .int .i64 0] 25 (0, 0)) = W14 at *
                generalize w13.heap.size = gp at *
                have HZZ := Lib.hid (show Calls Try.prog 15 #[.agg #[.int .i64 0, .string ⟨#[]⟩, .slice none 0 0, .string ⟨#[]⟩, .slice none 0 0, .string ⟨#[]⟩, .int .i64 0, .string ⟨#[]⟩, .string ⟨#[]⟩, .int .i64 0], .agg #[.int .i64 0, .string ⟨#[]⟩, .slice none 0 0, .string ⟨#[]⟩, .slice none 0 0, .string ⟨#[]⟩, .int .i64 0, .string ⟨#[]⟩, .string ⟨#[]⟩, .int .i64 0]] W14 fun e w' => e = .returned (.bool true) ∧ Below W14.heap.size W14 w' from HSM.out W14 zero none 0 none 0 none 0 none 0 ⟨recs_nil _ _ _, fun i hi => by cases hi⟩ ⟨recs_nil _ _ _, fun i hi => by cases hi⟩ (by decide) (by decide))
                have st0 := HT.out.sb.cell 0
                have mb0 := HT.out.mb.cell 0
                have ak0 := HAK.out.cell 0
                obtain ⟨z0, z1, z2, z3, z4, z5, z6, z7, z8, z9⟩ := ten_cells HPB.out
                go_wp2_with (go_at_call 15; refine HZZ.out.mono ?_; rintro r w15 ⟨rfl, hb15⟩)
                go_ret
                exact ⟨rfl, HT.out.below.trans (hb15.mono HT.out.below.size)⟩
              · have HMT := Lib.hid (mapThrough HT.out HGO.out HSO.out HQN.out HON.out (by omega) HQE.out (by omega) (by omega) (show stop < 0 ∨ (k : Int) ≤ stop by omega))
                have HDW2 := Lib.hid (fun W Al cl (hl : Lies W W.heap.size o A P) (hs : Strs W W.heap.size Al OL) (hcl : k ≤ cl) => show Calls Try.prog 16 #[.agg (objC o A c P d), .slice Al k cl] W fun e w' => (∃ A' c' P' d', e = .returned (.agg (objC (withF o OL) A' c' P' d')) ∧ Lies w' w'.heap.size (withF o OL) A' P') ∧ Below W.heap.size W w' from by
                  have h9 := HDW.out W Al cl hl hs (by rw [HON.out]; exact hcl)
                  rw [HON.out] at h9
                  exact h9)
                have hq1 : (withF o OL).ents.length ≤ 1000000 := by have := HWL.out.1; omega
                have hq2 : (withF o OL).parents.length ≤ 1000000 := by have := HWL.out.2; omega
                have HQS := Lib.hid (fun W A' c' P' d' A'' c'' P'' d'' h1 h2 => HSM.out W (withF o OL) A' c' P' d' A'' c'' P'' d'' h1 h2 hq1 hq2)
                clear HDW HWL hq1 hq2
                generalize withF o OL = q at *
                go_upto_region 17 with (go_at_call 13; refine HMT.out.mono ?_; rintro r w13 ⟨A', c', P', d', rfl, hlq, hb13, ha13⟩; have HT := Lib.hid (HT.out.step hb13); have HGO := Lib.hid (HGO.out.step hb13); have HSO := Lib.hid (strs_mono (HSO.out.below hb13) hb13.size); have HAK := Lib.hid ha13; have HLQ := Lib.hid hlq; clear hlq hb13 ha13 c0 c1 c2 c3 c4 c5 c6 c7 c8 c9)
                have hba : Below w13.heap.size w13 (w13.alloc (.cells (objC q A' c' P' d') 25 (0, 0))) := (Below.refl _ w13).alloc (Nat.le_refl _) _
                have HPB := Lib.hid (box_new w13 25 (objC q A' c' P' d'))
                replace HT := Lib.hid (HT.out.step hba)
                replace HGO := Lib.hid (HGO.out.step hba)
                replace HSO := Lib.hid (strs_mono (HSO.out.below hba) hba.size)
                replace HAK := Lib.hid (HAK.out.step hba)
                replace HLQ := Lib.hid (HLQ.out.step hba)
                clear hba
                generalize w13.alloc (.cells (objC q A' c' P' d') 25 (0, 0)) = W14 at *
                generalize w13.heap.size = gp at *
                have st0 := HT.out.sb.cell 0
                have mb0 := HT.out.mb.cell 0
                rcases (by omega : stop < 0 ∨ (0 ≤ stop ∧ (k : Int) ≤ stop)) with hneg | ⟨hpos, hge⟩
                all_goals
                  first
                    | (have s1 : ¬ (0 : Int) ≤ stop := by omega
                       clear hneg)
                    | (have s1 : (0 : Int) ≤ stop := by omega
                       have s2 : ¬ stop < (k : Int) := by omega
                       clear hpos hge)
                  clear hin
                  go_wp2_with fail
                  have HT := Lib.hid (HT.out.step (Below.refl _ W14).drew)
                  have HGO := Lib.hid (HGO.out.step (Below.refl _ W14).drew)
                  have HSO := Lib.hid (show Strs W14.drew W14.drew.heap.size Ao OL from strs_mono (HSO.out.below (Below.refl _ W14).drew) (Nat.le_refl _))
                  have HAK := Lib.hid (HAK.out.step (Below.refl _ W14).drew)
                  have HLQ := Lib.hid (HLQ.out.step (Below.refl _ W14).drew)
                  have HPB := Lib.hid (HPB.out.step (Below.refl _ W14).drew)
                  clear st0 mb0
                  refine wp_region_seq (fun W => BoxAt W V.heap.size 3 #[.int .i64 k] ∧ BoxAt W gm 30 #[.slice Am k cm] ∧ BoxAt W gp 25 (objC q A' c' P' d') ∧ BoxAt W w.heap.size 25 (objC o A c P d) ∧ BoxAt W W8.heap.size 23 #[.slice Ao k co]) [(0, false, 0), (1, false, 1), (2, false, 3), (3, false, 7), (4, false, 15), (5, false, 31), (6, false, 63), (7, false, 127), (8, false, 255), (9, false, 511), (10, false, 1023), (11, false, 2047), (12, true, 4095), (13, true, 8191), (14, false, 16383), (15, false, 32767)]
                    16 (by kernel_rfl) (by kernel_rfl) (by kernel_rfl) (fun d _ _ _ _ h => by cases d <;> exact h) (by kernel_rfl) (by kernel_rfl) ⟨HAK.out, HT.out.mb, HPB.out, HT.out.ob, HGO.out⟩ ?_
                  generalize W14.drew = W15 at *
                  refine seqH_take (.int .i64 0) rfl (Or.inl ⟨by rfl, fun W hW => by clear hW; go_simp⟩) ?_
                  go_simp
                  refine seqH_take (.bool true) rfl (Or.inl ⟨by rfl, fun W hW => by clear hW; go_simp⟩) ?_
                  go_simp
                  refine seqH_take (.bool true) rfl (Or.inl ⟨by rfl, fun W hW => by clear hW; go_simp⟩) ?_
                  go_simp
                  refine seqH_take (.int .i64 k) rfl (Or.inl ⟨by rfl, fun W hW => by have hx := hW.1.cell 0; clear hW; go_simp⟩) ?_
                  go_simp
                  refine seqH_take (.slice Am k cm) rfl (Or.inl ⟨by rfl, fun W hW => by have hx := hW.2.1.cell 0; clear hW; go_simp⟩) ?_
                  go_simp
                  refine seqH_take (.int .i64 k) rfl (Or.inl ⟨by rfl, fun W hW => by clear hW; go_simp⟩) ?_
                  go_simp
                  refine seqH_take (.bool true) rfl (Or.inl ⟨by rfl, fun W hW => by clear hW; go_simp⟩) ?_
                  go_simp
                  refine seqH_take (.bool true) rfl (Or.inl ⟨by rfl, fun W hW => by clear hW; go_simp⟩) ?_
                  go_simp
                  refine seqH_take (.bool true) rfl (Or.inl ⟨by rfl, fun W hW => by clear hW; go_simp⟩) ?_
                  go_simp
                  refine seqH_take (.agg (objC q A' c' P' d')) rfl (yields_load 25 (.tmp 12) rfl (by rfl) gp rfl 25 _ (0, 0) _ (fun W hW => hW.2.2.1) Try.underlying25 rfl ob_size) ?_
                  go_simp
                  refine seqH_take (.agg (objC o A c P d)) rfl (yields_load 25 (.tmp 3) rfl (by rfl) w.heap.size rfl 25 _ (0, 0) _ (fun W hW => hW.2.2.2.1) Try.underlying25 rfl ob_size) ?_
                  go_simp
                  refine seqH_take (.slice Ao k co) rfl (Or.inl ⟨by rfl, fun W hW => by have hx := hW.2.2.2.2.cell 0; clear hW; go_simp⟩) ?_
                  go_simp
                  refine seqH_call rfl (by rfl) (fun K hK => ?_)
                  have HK := Lib.hid hK
                  clear hK
                  go_simp
                  refine (HDW2.out _ _ _ HT.out.all HSO.out HCAP.out).mono ?_
                  rintro r w16 ⟨⟨A'', c'', P'', d'', rfl, hlw⟩, hb16⟩
                  have HLW := Lib.hid hlw
                  replace HT := Lib.hid (HT.out.step hb16)
                  replace HGO := Lib.hid (HGO.out.step hb16)
                  replace HAK := Lib.hid (HAK.out.step hb16)
                  replace HLQ := Lib.hid (HLQ.out.step hb16)
                  replace HPB := Lib.hid (HPB.out.step hb16)
                  clear hlw hb16
                  refine HK.out _ _ ⟨HAK.out, HT.out.mb, HPB.out, HT.out.ob, HGO.out⟩ ?_
                  clear HK K
                  go_simp
                  refine seqH_call rfl (by rfl) (fun K hK => ?_)
                  have HK := Lib.hid hK
                  clear hK
                  go_simp
                  refine (HQS.out _ _ _ _ _ _ _ _ _ HLQ.out HLW.out).mono ?_
                  rintro r w17 ⟨rfl, hb17⟩
                  replace HT := Lib.hid (HT.out.step hb17)
                  replace HGO := Lib.hid (HGO.out.step hb17)
                  replace HAK := Lib.hid (HAK.out.step hb17)
                  replace HPB := Lib.hid (HPB.out.step hb17)
                  clear hb17
                  refine HK.out _ _ ⟨HAK.out, HT.out.mb, HPB.out, HT.out.ob, HGO.out⟩ ?_
                  clear HK K
                  go_simp
                  refine seqH_take (.bool true) rfl (Or.inl ⟨by rfl, fun W hW => by clear hW; go_simp⟩) ?_
                  go_simp
                  refine seqH_take (.bool true) rfl (Or.inl ⟨by rfl, fun W hW => by clear hW; go_simp⟩) ?_
                  go_simp
                  refine seqH_done ?_
                  go_wp2
                  go_ret
                  exact ⟨rfl, HT.out.below⟩
        · have HK := Lib.hid hK
          clear hK
          go_simp
          have HGM := Lib.hid (show w.heap.size + 2 ≤ w7.heap.size from HP.out.sb.lt)
          have hba : Below w7.heap.size w7 (w7.alloc (.cells #[.slice none 0 0] 30 (0, 0))) := (Below.refl _ _).alloc (Nat.le_refl _) _
          have HBX := Lib.hid (box_new w7 30 #[.slice none 0 0])
          replace HP := Lib.hid (HP.out.step hba)
          replace HE := Lib.hid ((HE.out.below hba).mono hba.size)
          clear hba
          refine HK.out _ _ HP.out.ob ?_
          clear HK K
          generalize w7.alloc (.cells #[.slice none 0 0] 30 (0, 0)) = wa at *
          generalize w7.heap.size = gm at *
          go_simp
          refine trH_call rfl (by rfl) (fun K hK => ?_)
          have HK := Lib.hid hK
          clear hK
          go_simp
          refine (HDF.out _ HP.out.all).mono ?_
          rintro r w8 ⟨⟨Am, cm, rfl, hrm⟩, hb8⟩
          have HM := Lib.hid (ed_rec2 hrm)
          replace HP := Lib.hid (HP.out.step hb8)
          replace HE := Lib.hid ((HE.out.below hb8).mono hb8.size)
          replace HBX := Lib.hid (HBX.out.step hb8)
          clear hb8 hrm
          refine HK.out _ _ HP.out.ob ?_
          clear HK K
          go_simp
          refine trH_take (.slice Ae n ce) rfl (Or.inl ⟨by rfl, fun W _ => by go_simp⟩) ?_
          go_simp
          refine trH_call rfl (by rfl) (fun K hK => ?_)
          have HK := Lib.hid hK
          clear hK
          have f0 := HBX.out.free 0
          have k0 := HBX.out.cell 0
          go_simp
          have HTL := Lib.hid (tl_start HP.out HBX.out HGM.out HM.out HE.out (n := n) (cm := cm))
          refine HK.out _ _ HTL.out.ob ?_
          clear HK K f0 k0
          generalize w8.setCell ⟨gm, 0, none⟩ (.slice Am n cm) = W7 at *
          go_simp
          refine trH_done ?_
          clear HP HBX HM HE
          go_wp2_with fail
          have HTL := Lib.hid (HTL.out.step (Below.refl _ W7).drew)
          refine wp_region_seq (fun W => BoxAt W w.heap.size 25 (objC o A c P d) ∧ BoxAt W gm 30 #[.slice Am n cm]) [(0, false, 0), (1, false, 1), (2, false, 3), (3, false, 7), (4, false, 15), (5, false, 31), (6, false, 63), (8, false, 127), (7, true, 383), (9, true, 511), (10, true, 1023), (11, false, 2047), (12, false, 4095)]
            13 (by kernel_rfl) (by kernel_rfl) (by kernel_rfl) (fun d _ _ _ _ h => by cases d <;> exact h) (by kernel_rfl) (by kernel_rfl) ⟨HTL.out.ob, HTL.out.mb⟩ ?_
          generalize W7.drew = W9 at *
          refine seqH_take (.slice Ae n ce) rfl (Or.inl ⟨by rfl, fun W hW => by clear hW; go_simp⟩) ?_
          go_simp
          refine seqH_take (.int .i64 n) rfl (Or.inl ⟨by rfl, fun W hW => by clear hW; go_simp⟩) ?_
          go_simp
          refine seqH_take (.slice Am n cm) rfl (Or.inl ⟨by rfl, fun W hW => by have hx := hW.2.cell 0; clear hW; go_simp⟩) ?_
          go_simp
          refine seqH_take (.int .i64 n) rfl (Or.inl ⟨by rfl, fun W hW => by clear hW; go_simp⟩) ?_
          go_simp
          refine seqH_take (.bool false) rfl (Or.inl ⟨by rfl, fun W hW => by clear hW; go_simp⟩) ?_
          go_simp
          refine seqH_take (.bool false) rfl (Or.inl ⟨by rfl, fun W hW => by clear hW; go_simp⟩) ?_
          go_simp
          refine seqH_take (.agg (objC o A c P d)) rfl (yields_load 25 (.tmp 3) rfl (by rfl) w.heap.size rfl 25 _ (0, 0) _ (fun W hW => hW.1) Try.underlying25 rfl ob_size) ?_
          go_simp
          refine seqH_take (.agg (objC o A c P d)) rfl (yields_load 25 (.tmp 3) rfl (by rfl) w.heap.size rfl 25 _ (0, 0) _ (fun W hW => hW.1) Try.underlying25 rfl ob_size) ?_
          go_simp
          refine seqH_call rfl (by rfl) (fun K hK => ?_)
          have HK := Lib.hid hK
          clear hK
          go_simp
          refine (HNM.out _ HTL.out.all).mono ?_
          rintro r w10 ⟨⟨A1, c1, rfl, hst1⟩, hb10⟩
          have HS1 := Lib.hid hst1
          replace HTL := Lib.hid (HTL.out.step hb10)
          clear hst1 hb10
          refine HK.out _ _ ⟨HTL.out.ob, HTL.out.mb⟩ ?_
          clear HK K
          go_simp
          refine seqH_call rfl (by rfl) (fun K hK => ?_)
          have HK := Lib.hid hK
          clear hK
          go_simp
          refine (HDN.out _ HTL.out.all).mono ?_
          rintro r w11 ⟨⟨A2, c2, rfl, hst2⟩, hb11⟩
          have HS2 := Lib.hid hst2
          replace HS1 := Lib.hid (strs_mono (HS1.out.below hb11) hb11.size)
          replace HTL := Lib.hid (HTL.out.step hb11)
          clear hst2 hb11
          refine HK.out _ _ ⟨HTL.out.ob, HTL.out.mb⟩ ?_
          clear HK K
          go_simp
          refine seqH_call rfl (by rfl) (fun K hK => ?_)
          have HK := Lib.hid hK
          clear hK
          go_simp
          refine (HTX.out _ _ _ _ _ HS1.out HS2.out).mono ?_
          rintro r W8 ⟨rfl, hb12⟩
          replace HTL := Lib.hid (HTL.out.step hb12)
          clear hb12
          refine HK.out _ _ ⟨HTL.out.ob, HTL.out.mb⟩ ?_
          clear HK K
          go_simp
          refine seqH_take (.bool false) rfl (Or.inl ⟨by rfl, fun W hW => by clear hW; go_simp⟩) ?_
          go_simp
          refine seqH_take (.bool false) rfl (Or.inl ⟨by rfl, fun W hW => by clear hW; go_simp⟩) ?_
          go_simp
          refine seqH_done ?_
          clear HS1 HS2
          have HG8 := Lib.hid (box_new W8 23 #[.slice none 0 0])
          have HB8 := Lib.hid (show Below W8.heap.size W8 (W8.alloc (.cells #[.slice none 0 0] 23 (0, 0))) from (Below.refl _ W8).alloc (Nat.le_refl _) _)
          go_wp2_with fail
          go_loopg [10] n (fun g v wr => ∃ (k : Nat) (Ao : Option Addr) (co : Nat), k ≤ n ∧ g = n - k ∧ v = .int .i64 k ∧ Below W8.heap.size W8 wr ∧ BoxAt wr W8.heap.size 23 #[.slice Ao k co] ∧ wr.ownsRow (W8.heap.size + 1) 9 1 (.slice Ao k co) k ((OL.take k).flatMap stV))
          case atStart => exact ⟨0, none, 0, Nat.zero_le _, rfl, rfl, HB8.out, HG8.out, World.ownsRow_nil _ _ _ _⟩
          case round =>
            obtain ⟨k, Ao, co, hkn, rfl, rfl, hbl, hgo, hrw⟩ := hrel
            have HT := Lib.hid (HTL.out.step hbl)
            by_cases hlt : k < n
            · have h1 : (k : Int) < n := by omega
              have h0 : (0 : Int) ≤ k := by omega
              have hw1 : IntKind.i64.wrap ((k : Int) + 1) = (k : Int) + 1 := IntWalk.i64_in _ (by omega)
              obtain ⟨ade, ee, k1, k2⟩ := edge_cells HT.out.hl (i := k) (by have := HQN.out; omega)
              obtain ⟨adm, em, m1, m2⟩ := edge_cells HT.out.hm (i := k) (by have := HQN.out; omega)
              obtain ⟨adm', em', n1, _⟩ := edge_cells HTL.out.hm (i := k) (by have := HQN.out; omega)
              rw [em] at em'
              injection em' with em'
              subst em'
              have hOk := HOG.out k hlt
              have hsz := HSI.out k hlt
              have hts : OL.take (k + 1) = OL.take k ++ [OL.getD k ByteArray.empty] := take_snoc (by have := HON.out; omega)
              rw [hOk] at hts
              have hlen : (OL.take k).length = k := by rw [List.length_take]; have := HON.out; omega
              have hlk : (OL.take (k + 1)).length = k + 1 := by rw [List.length_take]; have := HON.out; omega
              generalize Q.getD k default = y at *
              obtain ⟨x, kd⟩ := y
              simp only at k1 k2 m1 m2 n1 hsz hts
              have HS := Lib.hid hts
              have hN := fun W => neq_ed x kd W
              have hcc : ¬ 9223372036854775807 < (⟨#[t]⟩ : ByteArray).size + x.size := by have : (⟨#[t]⟩ : ByteArray).size = 1 := rfl; omega
              have hcc2 : ¬ 9223372036854775807 < 1 + x.size := by omega
              have mb0 := HT.out.mb.cell 0
              have HGMW := Lib.hid (show gm < W8.heap.size from HTL.out.mb.lt)
              have HCX := Lib.hid (show ∀ W, BoxAt W gm 30 #[.slice Am n cm] → Below W8.heap.size W8 W → BoxAt W gm 30 #[.slice Am n cm] ∧ W.cell? (adm.add (k * 2)) = some (.string x) from fun W h hb => ⟨h, (hb.cell (World.block_lt_of_cell? _ _ n1)).trans n1⟩)
              have hdd : Below wr.heap.size wr wr.drew.drew := (Below.refl _ wr).drew.drew
              have HSS := Lib.hid (HCX.out wr.drew.drew (HT.out.step hdd).mb hbl.drew.drew)
              have HGO := Lib.hid (hgo.step hdd)
              have HRW := Lib.hid (own_step hrw hdd)
              have HBL := Lib.hid (show Below W8.heap.size W8 wr.drew.drew from hbl.drew.drew)
              replace HT := Lib.hid (HT.out.step hdd)
              subst ee em
              clear hbl hgo hrw hdd hts hOk n1
              go_wp2_with fail
              refine wp_region_still_lit (by kernel_rfl) (by kernel_rfl) ?_
              change wpStill _ _ (World.drew _) (fun a' => Exit.then _ _ _ a' (World.drew _)) _ _
              iterate 9 ((with_reducible refine wpStill_step ?_); intro K hK; go_simp; refine hK _ ?_; clear hK K)
              refine wpStill_nil ?_
              clear k1 k2 m1 m2 mb0
              go_wp2_with fail
              refine wp_region_tree (fun W => BoxAt W gm 30 #[.slice (some adm) n cm] ∧ W.cell? (adm.add (k * 2)) = some (.string x)) (.take 1 0 (.take 4 2 (.take 5 18 (.take 6 50 (.take 7 114 (.take 8 242 (.fork 0 2 498 (.call 2 499 (.call 3 503 (.take 9 511 (.call 10 1023 (.call 11 2047 (.call 12 4095 .done)))))) (.fork 0 3 502 (.call 3 503 (.take 9 511 (.call 10 1023 (.call 11 2047 (.call 12 4095 .done))))) (.take 9 510 (.fork 0 10 1022 (.call 10 1023 (.call 11 2047 (.call 12 4095 .done))) (.call 0 2046 (.call 11 2047 (.call 12 4095 .done))))))))))))) 13 (by kernel_rfl) (by kernel_rfl) (by kernel_rfl) (fun d _ _ _ _ h => by cases d <;> exact h) (by kernel_rfl) HSS.out ?_
              generalize hW0 : wr.drew.drew = W0 at *
              clear hW0
              refine trH_take (.int .u8 t.toNat) rfl (Or.inl ⟨by rfl, fun W hW => by clear hW; go_simp⟩) ?_
              go_simp
              refine trH_take (.slice (some adm) n cm) rfl (Or.inl ⟨by rfl, fun W hW => by have hx := hW.1.cell 0; clear hW; go_simp⟩) ?_
              go_simp
              refine trH_take (.int .i64 k) rfl (Or.inl ⟨by rfl, fun W hW => by clear hW; go_simp⟩) ?_
              go_simp
              refine trH_take (.pointer (some (adm.add (k * 2)))) rfl (Or.inl ⟨by rfl, fun W hW => by clear hW; go_simp⟩) ?_
              go_simp
              refine trH_take (.pointer (some (adm.add (k * 2)))) rfl (Or.inl ⟨by rfl, fun W hW => by clear hW; go_simp⟩) ?_
              go_simp
              refine trH_take (.string x) rfl (Or.inl ⟨by rfl, fun W hW => by have hx := hW.2; clear hW; go_simp⟩) ?_
              go_simp
              refine trH_fork rfl (by rfl) rfl (by rfl) (fun K hK => ?_) (fun K hK => ?_)
              · have HK := Lib.hid hK
                clear hK
                have k0 : W0.cell? ⟨W8.heap.size, 0, none⟩ = some (.slice Ao k co) := HGO.out.cell 0
                go_simp
                refine HK.out _ _ HSS.out ?_
                clear HK K k0
                go_simp
                refine trH_call rfl (by rfl) (fun K hK => ?_)
                have HK := Lib.hid hK
                clear hK
                go_simp
                have hba : Below W0.heap.size W0 (W0.alloc (.cells #[.int .u8 t.toNat] 5)) := (Below.refl _ _).alloc (Nat.le_refl _) _
                have HBB := Lib.hid (box_new W0 5 #[.int .u8 t.toNat])
                have HWZ := Lib.hid (show W0.heap.size < (W0.alloc (.cells #[.int .u8 t.toNat] 5)).heap.size from by simp)
                replace HT := Lib.hid (HT.out.step hba)
                replace HGO := Lib.hid (HGO.out.step hba)
                replace HRW := Lib.hid (own_step HRW.out hba)
                replace HBL := Lib.hid (HBL.out.trans (hba.mono HBL.out.size))
                replace HSS := Lib.hid (And.intro (HSS.out.1.step hba) ((hba.cell (World.block_lt_of_cell? _ _ HSS.out.2)).trans HSS.out.2))
                clear hba
                refine HK.out _ _ HSS.out ?_
                clear HK K
                generalize W0.alloc (.cells #[.int .u8 t.toNat] 5) = y1 at *
                generalize W0.heap.size = gb at *
                go_simp
                refine trH_call rfl (by rfl) (fun K hK => ?_)
                have HK := Lib.hid hK
                clear hK
                have hcv := conv_one HBB.out
                go_simp
                refine HK.out _ _ HSS.out ?_
                clear HK K hcv
                go_simp
                refine trH_take (.string ((⟨#[t]⟩ : ByteArray) ++ x)) rfl (Or.inl ⟨by rfl, fun W hW => by clear hW; go_simp⟩) ?_
                go_simp
                refine trH_call rfl (by rfl) (fun K hK => ?_)
                have HK := Lib.hid hK
                clear hK
                go_simp
                have HAP := Lib.hid (app_one HE1.out stV_len stV_one y1 (W8.heap.size + 1) Ao co (OL.take k) ((⟨#[t]⟩ : ByteArray) ++ x) 23 (by rw [hlen]; exact HRW.out) (by omega) HGO.out.lt)
                have hba : Below y1.heap.size y1 (y1.alloc (.cells #[.string ((⟨#[t]⟩ : ByteArray) ++ x)] 9)) := (Below.refl _ _).alloc (Nat.le_refl _) _
                replace HSS := Lib.hid (And.intro (HSS.out.1.step hba) ((hba.cell (World.block_lt_of_cell? _ _ HSS.out.2)).trans HSS.out.2))
                have HGO2 := Lib.hid (HGO.out.step hba)
                clear hba
                refine HK.out _ _ HSS.out ?_
                clear HK K
                go_simp
                refine trH_call rfl (by rfl) (fun K hK => ?_)
                have HK := Lib.hid hK
                clear hK
                obtain ⟨A4, c4, y2, hrun, ho1, hb1⟩ := HAP.out
                rw [← HS.out, hlk] at hrun ho1
                simp only [stV, hlen] at hrun
                have HRUN := Lib.hid hrun
                have HSS3 := Lib.hid (show BoxAt y2 gm 30 #[.slice (some adm) n cm] from (hb1.block _ (by have := HGMW.out; omega)).trans HT.out.mb)
                have HGO3 := Lib.hid (show BoxAt y2 W8.heap.size 23 #[.slice Ao k co] from (hb1.block _ (by omega)).trans HGO.out)
                have HBL3 := Lib.hid (HBL.out.trans (hb1.mono (by omega)))
                have HRW3 := Lib.hid ho1
                clear hrun ho1 hb1
                unfold Oper.wp
                simp [execOp, resolve, invoke, builtin, Act.eval, HRUN.out, Result.andThen, Oper.upon]
                refine HK.out _ _ (HCX.out _ HSS3.out HBL3.out) ?_
                clear HK K HRUN
                go_simp
                refine trH_call rfl (by rfl) (fun K hK => ?_)
                have HK := Lib.hid hK
                clear hK
                have f0 := HGO3.out.free 0
                have k0 := HGO3.out.cell 0
                go_simp
                have HFIN := Lib.hid (show Below W8.heap.size W8 (y2.setCell ⟨W8.heap.size, 0, none⟩ (.slice A4 (k + 1) c4)) ∧ BoxAt (y2.setCell ⟨W8.heap.size, 0, none⟩ (.slice A4 (k + 1) c4)) W8.heap.size 23 #[.slice A4 (k + 1) c4] ∧ (y2.setCell ⟨W8.heap.size, 0, none⟩ (.slice A4 (k + 1) c4)).ownsRow (W8.heap.size + 1) 9 1 (.slice A4 (k + 1) c4) (k + 1) ((OL.take (k + 1)).flatMap stV) from ⟨HBL3.out.setCell (p := ⟨W8.heap.size, 0, none⟩) (Nat.le_refl _) _, Hg.heap_setCell_cells HGO3.out 0 _, own_set1 HRW3.out⟩)
                have HMB := Lib.hid (show BoxAt (y2.setCell ⟨W8.heap.size, 0, none⟩ (.slice A4 (k + 1) c4)) gm 30 #[.slice (some adm) n cm] from (Below.heap_setCell _ _ _ _ (by have := HGMW.out; show gm ≠ W8.heap.size; omega)).trans HSS3.out)
                refine HK.out _ _ (HCX.out _ HMB.out HFIN.out.1) ?_
                clear HK K f0 k0
                go_simp
                refine trH_done ?_
                go_wp2
                go_roundg (n - (k + 1))
                case rel => exact ⟨k + 1, A4, c4, by omega, rfl, by go_num, HFIN.out.1, HFIN.out.2.1, HFIN.out.2.2⟩
                case measure => omega
              · have HK := Lib.hid hK
                clear hK
                go_simp
                have hba : Below W0.heap.size W0 (W0.alloc (.cells #[.int .u8 t.toNat] 5)) := (Below.refl _ _).alloc (Nat.le_refl _) _
                have HBB := Lib.hid (box_new W0 5 #[.int .u8 t.toNat])
                have HWZ := Lib.hid (show W0.heap.size < (W0.alloc (.cells #[.int .u8 t.toNat] 5)).heap.size from by simp)
                replace HT := Lib.hid (HT.out.step hba)
                replace HGO := Lib.hid (HGO.out.step hba)
                replace HRW := Lib.hid (own_step HRW.out hba)
                replace HBL := Lib.hid (HBL.out.trans (hba.mono HBL.out.size))
                replace HSS := Lib.hid (And.intro (HSS.out.1.step hba) ((hba.cell (World.block_lt_of_cell? _ _ HSS.out.2)).trans HSS.out.2))
                clear hba
                refine HK.out _ _ HSS.out ?_
                clear HK K
                generalize W0.alloc (.cells #[.int .u8 t.toNat] 5) = y1 at *
                generalize W0.heap.size = gb at *
                go_simp
                refine trH_fork rfl (by rfl) rfl (by rfl) (fun K hK => ?_) (fun K hK => ?_)
                · have HK := Lib.hid hK
                  clear hK
                  have k0 : y1.cell? ⟨W8.heap.size, 0, none⟩ = some (.slice Ao k co) := HGO.out.cell 0
                  go_simp
                  refine HK.out _ _ HSS.out ?_
                  clear HK K k0
                  go_simp
                  refine trH_call rfl (by rfl) (fun K hK => ?_)
                  have HK := Lib.hid hK
                  clear hK
                  have hcv := conv_one HBB.out
                  go_simp
                  refine HK.out _ _ HSS.out ?_
                  clear HK K hcv
                  go_simp
                  refine trH_take (.string ((⟨#[t]⟩ : ByteArray) ++ x)) rfl (Or.inl ⟨by rfl, fun W hW => by clear hW; go_simp⟩) ?_
                  go_simp
                  refine trH_call rfl (by rfl) (fun K hK => ?_)
                  have HK := Lib.hid hK
                  clear hK
                  go_simp
                  have HAP := Lib.hid (app_one HE1.out stV_len stV_one y1 (W8.heap.size + 1) Ao co (OL.take k) ((⟨#[t]⟩ : ByteArray) ++ x) 23 (by rw [hlen]; exact HRW.out) (by omega) HGO.out.lt)
                  have hba : Below y1.heap.size y1 (y1.alloc (.cells #[.string ((⟨#[t]⟩ : ByteArray) ++ x)] 9)) := (Below.refl _ _).alloc (Nat.le_refl _) _
                  replace HSS := Lib.hid (And.intro (HSS.out.1.step hba) ((hba.cell (World.block_lt_of_cell? _ _ HSS.out.2)).trans HSS.out.2))
                  have HGO2 := Lib.hid (HGO.out.step hba)
                  clear hba
                  refine HK.out _ _ HSS.out ?_
                  clear HK K
                  go_simp
                  refine trH_call rfl (by rfl) (fun K hK => ?_)
                  have HK := Lib.hid hK
                  clear hK
                  obtain ⟨A4, c4, y2, hrun, ho1, hb1⟩ := HAP.out
                  rw [← HS.out, hlk] at hrun ho1
                  simp only [stV, hlen] at hrun
                  have HRUN := Lib.hid hrun
                  have HSS3 := Lib.hid (show BoxAt y2 gm 30 #[.slice (some adm) n cm] from (hb1.block _ (by have := HGMW.out; omega)).trans HT.out.mb)
                  have HGO3 := Lib.hid (show BoxAt y2 W8.heap.size 23 #[.slice Ao k co] from (hb1.block _ (by omega)).trans HGO.out)
                  have HBL3 := Lib.hid (HBL.out.trans (hb1.mono (by omega)))
                  have HRW3 := Lib.hid ho1
                  clear hrun ho1 hb1
                  unfold Oper.wp
                  simp [execOp, resolve, invoke, builtin, Act.eval, HRUN.out, Result.andThen, Oper.upon]
                  refine HK.out _ _ (HCX.out _ HSS3.out HBL3.out) ?_
                  clear HK K HRUN
                  go_simp
                  refine trH_call rfl (by rfl) (fun K hK => ?_)
                  have HK := Lib.hid hK
                  clear hK
                  have f0 := HGO3.out.free 0
                  have k0 := HGO3.out.cell 0
                  go_simp
                  have HFIN := Lib.hid (show Below W8.heap.size W8 (y2.setCell ⟨W8.heap.size, 0, none⟩ (.slice A4 (k + 1) c4)) ∧ BoxAt (y2.setCell ⟨W8.heap.size, 0, none⟩ (.slice A4 (k + 1) c4)) W8.heap.size 23 #[.slice A4 (k + 1) c4] ∧ (y2.setCell ⟨W8.heap.size, 0, none⟩ (.slice A4 (k + 1) c4)).ownsRow (W8.heap.size + 1) 9 1 (.slice A4 (k + 1) c4) (k + 1) ((OL.take (k + 1)).flatMap stV) from ⟨HBL3.out.setCell (p := ⟨W8.heap.size, 0, none⟩) (Nat.le_refl _) _, Hg.heap_setCell_cells HGO3.out 0 _, own_set1 HRW3.out⟩)
                  have HMB := Lib.hid (show BoxAt (y2.setCell ⟨W8.heap.size, 0, none⟩ (.slice A4 (k + 1) c4)) gm 30 #[.slice (some adm) n cm] from (Below.heap_setCell _ _ _ _ (by have := HGMW.out; show gm ≠ W8.heap.size; omega)).trans HSS3.out)
                  refine HK.out _ _ (HCX.out _ HMB.out HFIN.out.1) ?_
                  clear HK K f0 k0
                  go_simp
                  refine trH_done ?_
                  go_wp2
                  go_roundg (n - (k + 1))
                  case rel => exact ⟨k + 1, A4, c4, by omega, rfl, by go_num, HFIN.out.1, HFIN.out.2.1, HFIN.out.2.2⟩
                  case measure => omega
                · have HK := Lib.hid hK
                  clear hK
                  have hcv := conv_one HBB.out
                  go_simp
                  refine HK.out _ _ HSS.out ?_
                  clear HK K hcv
                  go_simp
                  refine trH_take (.string ((⟨#[t]⟩ : ByteArray) ++ x)) rfl (Or.inl ⟨by rfl, fun W hW => by clear hW; go_simp⟩) ?_
                  go_simp
                  refine trH_fork rfl (by rfl) rfl (by rfl) (fun K hK => ?_) (fun K hK => ?_)
                  · have HK := Lib.hid hK
                    clear hK
                    have k0 : y1.cell? ⟨W8.heap.size, 0, none⟩ = some (.slice Ao k co) := HGO.out.cell 0
                    go_simp
                    refine HK.out _ _ HSS.out ?_
                    clear HK K k0
                    go_simp
                    refine trH_call rfl (by rfl) (fun K hK => ?_)
                    have HK := Lib.hid hK
                    clear hK
                    go_simp
                    have HAP := Lib.hid (app_one HE1.out stV_len stV_one y1 (W8.heap.size + 1) Ao co (OL.take k) ((⟨#[t]⟩ : ByteArray) ++ x) 23 (by rw [hlen]; exact HRW.out) (by omega) HGO.out.lt)
                    have hba : Below y1.heap.size y1 (y1.alloc (.cells #[.string ((⟨#[t]⟩ : ByteArray) ++ x)] 9)) := (Below.refl _ _).alloc (Nat.le_refl _) _
                    replace HSS := Lib.hid (And.intro (HSS.out.1.step hba) ((hba.cell (World.block_lt_of_cell? _ _ HSS.out.2)).trans HSS.out.2))
                    have HGO2 := Lib.hid (HGO.out.step hba)
                    clear hba
                    refine HK.out _ _ HSS.out ?_
                    clear HK K
                    go_simp
                    refine trH_call rfl (by rfl) (fun K hK => ?_)
                    have HK := Lib.hid hK
                    clear hK
                    obtain ⟨A4, c4, y2, hrun, ho1, hb1⟩ := HAP.out
                    rw [← HS.out, hlk] at hrun ho1
                    simp only [stV, hlen] at hrun
                    have HRUN := Lib.hid hrun
                    have HSS3 := Lib.hid (show BoxAt y2 gm 30 #[.slice (some adm) n cm] from (hb1.block _ (by have := HGMW.out; omega)).trans HT.out.mb)
                    have HGO3 := Lib.hid (show BoxAt y2 W8.heap.size 23 #[.slice Ao k co] from (hb1.block _ (by omega)).trans HGO.out)
                    have HBL3 := Lib.hid (HBL.out.trans (hb1.mono (by omega)))
                    have HRW3 := Lib.hid ho1
                    clear hrun ho1 hb1
                    unfold Oper.wp
                    simp [execOp, resolve, invoke, builtin, Act.eval, HRUN.out, Result.andThen, Oper.upon]
                    refine HK.out _ _ (HCX.out _ HSS3.out HBL3.out) ?_
                    clear HK K HRUN
                    go_simp
                    refine trH_call rfl (by rfl) (fun K hK => ?_)
                    have HK := Lib.hid hK
                    clear hK
                    have f0 := HGO3.out.free 0
                    have k0 := HGO3.out.cell 0
                    go_simp
                    have HFIN := Lib.hid (show Below W8.heap.size W8 (y2.setCell ⟨W8.heap.size, 0, none⟩ (.slice A4 (k + 1) c4)) ∧ BoxAt (y2.setCell ⟨W8.heap.size, 0, none⟩ (.slice A4 (k + 1) c4)) W8.heap.size 23 #[.slice A4 (k + 1) c4] ∧ (y2.setCell ⟨W8.heap.size, 0, none⟩ (.slice A4 (k + 1) c4)).ownsRow (W8.heap.size + 1) 9 1 (.slice A4 (k + 1) c4) (k + 1) ((OL.take (k + 1)).flatMap stV) from ⟨HBL3.out.setCell (p := ⟨W8.heap.size, 0, none⟩) (Nat.le_refl _) _, Hg.heap_setCell_cells HGO3.out 0 _, own_set1 HRW3.out⟩)
                    have HMB := Lib.hid (show BoxAt (y2.setCell ⟨W8.heap.size, 0, none⟩ (.slice A4 (k + 1) c4)) gm 30 #[.slice (some adm) n cm] from (Below.heap_setCell _ _ _ _ (by have := HGMW.out; show gm ≠ W8.heap.size; omega)).trans HSS3.out)
                    refine HK.out _ _ (HCX.out _ HMB.out HFIN.out.1) ?_
                    clear HK K f0 k0
                    go_simp
                    refine trH_done ?_
                    go_wp2
                    go_roundg (n - (k + 1))
                    case rel => exact ⟨k + 1, A4, c4, by omega, rfl, by go_num, HFIN.out.1, HFIN.out.2.1, HFIN.out.2.2⟩
                    case measure => omega
                  · have HK := Lib.hid hK
                    clear hK
                    go_simp
                    have HAP := Lib.hid (app_one HE1.out stV_len stV_one y1 (W8.heap.size + 1) Ao co (OL.take k) ((⟨#[t]⟩ : ByteArray) ++ x) 23 (by rw [hlen]; exact HRW.out) (by omega) HGO.out.lt)
                    have hba : Below y1.heap.size y1 (y1.alloc (.cells #[.string ((⟨#[t]⟩ : ByteArray) ++ x)] 9)) := (Below.refl _ _).alloc (Nat.le_refl _) _
                    replace HSS := Lib.hid (And.intro (HSS.out.1.step hba) ((hba.cell (World.block_lt_of_cell? _ _ HSS.out.2)).trans HSS.out.2))
                    have HGO2 := Lib.hid (HGO.out.step hba)
                    clear hba
                    refine HK.out _ _ HSS.out ?_
                    clear HK K
                    go_simp
                    refine trH_call rfl (by rfl) (fun K hK => ?_)
                    have HK := Lib.hid hK
                    clear hK
                    have k0 : (y1.alloc (.cells #[.string ((⟨#[t]⟩ : ByteArray) ++ x)] 9)).cell? ⟨W8.heap.size, 0, none⟩ = some (.slice Ao k co) := HGO2.out.cell 0
                    go_simp
                    refine HK.out _ _ HSS.out ?_
                    clear HK K k0
                    go_simp
                    refine trH_call rfl (by rfl) (fun K hK => ?_)
                    have HK := Lib.hid hK
                    clear hK
                    obtain ⟨A4, c4, y2, hrun, ho1, hb1⟩ := HAP.out
                    rw [← HS.out, hlk] at hrun ho1
                    simp only [stV, hlen] at hrun
                    have HRUN := Lib.hid hrun
                    have HSS3 := Lib.hid (show BoxAt y2 gm 30 #[.slice (some adm) n cm] from (hb1.block _ (by have := HGMW.out; omega)).trans HT.out.mb)
                    have HGO3 := Lib.hid (show BoxAt y2 W8.heap.size 23 #[.slice Ao k co] from (hb1.block _ (by omega)).trans HGO.out)
                    have HBL3 := Lib.hid (HBL.out.trans (hb1.mono (by omega)))
                    have HRW3 := Lib.hid ho1
                    clear hrun ho1 hb1
                    unfold Oper.wp
                    simp [execOp, resolve, invoke, builtin, Act.eval, HRUN.out, Result.andThen, Oper.upon]
                    refine HK.out _ _ (HCX.out _ HSS3.out HBL3.out) ?_
                    clear HK K HRUN
                    go_simp
                    refine trH_call rfl (by rfl) (fun K hK => ?_)
                    have HK := Lib.hid hK
                    clear hK
                    have f0 := HGO3.out.free 0
                    have k0 := HGO3.out.cell 0
                    go_simp
                    have HFIN := Lib.hid (show Below W8.heap.size W8 (y2.setCell ⟨W8.heap.size, 0, none⟩ (.slice A4 (k + 1) c4)) ∧ BoxAt (y2.setCell ⟨W8.heap.size, 0, none⟩ (.slice A4 (k + 1) c4)) W8.heap.size 23 #[.slice A4 (k + 1) c4] ∧ (y2.setCell ⟨W8.heap.size, 0, none⟩ (.slice A4 (k + 1) c4)).ownsRow (W8.heap.size + 1) 9 1 (.slice A4 (k + 1) c4) (k + 1) ((OL.take (k + 1)).flatMap stV) from ⟨HBL3.out.setCell (p := ⟨W8.heap.size, 0, none⟩) (Nat.le_refl _) _, Hg.heap_setCell_cells HGO3.out 0 _, own_set1 HRW3.out⟩)
                    have HMB := Lib.hid (show BoxAt (y2.setCell ⟨W8.heap.size, 0, none⟩ (.slice A4 (k + 1) c4)) gm 30 #[.slice (some adm) n cm] from (Below.heap_setCell _ _ _ _ (by have := HGMW.out; show gm ≠ W8.heap.size; omega)).trans HSS3.out)
                    refine HK.out _ _ (HCX.out _ HMB.out HFIN.out.1) ?_
                    clear HK K f0 k0
                    go_simp
                    refine trH_done ?_
                    go_wp2
                    go_roundg (n - (k + 1))
                    case rel => exact ⟨k + 1, A4, c4, by omega, rfl, by go_num, HFIN.out.1, HFIN.out.2.1, HFIN.out.2.2⟩
                    case measure => omega
            · have h1 : ¬ (k : Int) < n := by omega
              obtain rfl : k = n := by omega
              have HF := Lib.hid (show OL.take k = OL from List.take_of_length_le (by have := HON.out; omega))
              rw [HF.out] at hrw
              have HCAP := Lib.hid (own_le hrw)
              have HSO := Lib.hid (plain_strs hrw)
              have HGO := Lib.hid hgo
              obtain ⟨V, hV⟩ : ∃ V, V = wr := ⟨wr, rfl⟩
              subst hV
              have HBA := Lib.hid (show Below V.heap.size V (V.alloc (.cells #[.int .i64 0] 3 (0, 0))) from (Below.refl _ V).alloc (Nat.le_refl _) _)
              obtain ⟨c0, c1, c2, c3, c4, c5, c6, c7, c8, c9⟩ := (HT.out.step HBA.out).ob.ten
              clear hbl hgo hrw
              by_cases hin : 0 ≤ stop ∧ stop < k
              · have HMT := Lib.hid (mapStop HT.out HGO.out HSO.out HQN.out HON.out (by omega) HQE.out (by omega) (by omega) hin.1 hin.2)
                have s1 : (0 : Int) ≤ stop := hin.1
                have s2 : stop < k := hin.2
                have hw3 : IntKind.i64.wrap (stop + 1) = stop + 1 := IntWalk.i64_in _ (by omega)
                clear hin
                go_upto_region 17 with (go_at_call 13; refine HMT.out.mono ?_; rintro r w13 ⟨rfl, hb13, ha13⟩; have HT := Lib.hid (HT.out.step hb13); have HAK := Lib.hid ha13; clear hb13 ha13 c0 c1 c2 c3 c4 c5 c6 c7 c8 c9)
                have hba : Below w13.heap.size w13 (w13.alloc (.cells #[.int .i64 0, .string ⟨#[]⟩, .slice none 0 0, .string ⟨#[]⟩, .slice none 0 0, .string ⟨#[]⟩, .int .i64 0, .string ⟨#[]⟩, .string ⟨#[]⟩, .int .i64 0] 25 (0, 0))) := (Below.refl _ w13).alloc (Nat.le_refl _) _
                have HPB := Lib.hid (box_new w13 25 #[.int .i64 0, .string ⟨#[]⟩, .slice none 0 0, .string ⟨#[]⟩, .slice none 0 0, .string ⟨#[]⟩, .int .i64 0, .string ⟨#[]⟩, .string ⟨#[]⟩, .int .i64 0])
                replace HT := Lib.hid (HT.out.step hba)
                replace HAK := Lib.hid (HAK.out.step hba)
                clear hba
                generalize w13.alloc (.cells #[.int .i64 0, .string ⟨#[]⟩, .slice none 0 0, .string ⟨#[]⟩, .slice none 0 0, .string ⟨#[]⟩, .int .i64 0, .string ⟨#[]⟩, .string ⟨#[]⟩, .int .i64 0] 25 (0, 0)) = W14 at *
                generalize w13.heap.size = gp at *
                have HZZ := Lib.hid (show Calls Try.prog 15 #[.agg #[.int .i64 0, .string ⟨#[]⟩, .slice none 0 0, .string ⟨#[]⟩, .slice none 0 0, .string ⟨#[]⟩, .int .i64 0, .string ⟨#[]⟩, .string ⟨#[]⟩, .int .i64 0], .agg #[.int .i64 0, .string ⟨#[]⟩, .slice none 0 0, .string ⟨#[]⟩, .slice none 0 0, .string ⟨#[]⟩, .int .i64 0, .string ⟨#[]⟩, .string ⟨#[]⟩, .int .i64 0]] W14 fun e w' => e = .returned (.bool true) ∧ Below W14.heap.size W14 w' from HSM.out W14 zero none 0 none 0 none 0 none 0 ⟨recs_nil _ _ _, fun i hi => by cases hi⟩ ⟨recs_nil _ _ _, fun i hi => by cases hi⟩ (by decide) (by decide))
                have st0 := HT.out.sb.cell 0
                have mb0 := HT.out.mb.cell 0
                have ak0 := HAK.out.cell 0
                obtain ⟨z0, z1, z2, z3, z4, z5, z6, z7, z8, z9⟩ := ten_cells HPB.out
                go_wp2_with (go_at_call 15; refine HZZ.out.mono ?_; rintro r w15 ⟨rfl, hb15⟩)
                go_ret
                exact ⟨rfl, HT.out.below.trans (hb15.mono HT.out.below.size)⟩
              · have HMT := Lib.hid (mapThrough HT.out HGO.out HSO.out HQN.out HON.out (by omega) HQE.out (by omega) (by omega) (show stop < 0 ∨ (k : Int) ≤ stop by omega))
                have HDW2 := Lib.hid (fun W Al cl (hl : Lies W W.heap.size o A P) (hs : Strs W W.heap.size Al OL) (hcl : k ≤ cl) => show Calls Try.prog 16 #[.agg (objC o A c P d), .slice Al k cl] W fun e w' => (∃ A' c' P' d', e = .returned (.agg (objC (withF o OL) A' c' P' d')) ∧ Lies w' w'.heap.size (withF o OL) A' P') ∧ Below W.heap.size W w' from by
                  have h9 := HDW.out W Al cl hl hs (by rw [HON.out]; exact hcl)
                  rw [HON.out] at h9
                  exact h9)
                have hq1 : (withF o OL).ents.length ≤ 1000000 := by have := HWL.out.1; omega
                have hq2 : (withF o OL).parents.length ≤ 1000000 := by have := HWL.out.2; omega
                have HQS := Lib.hid (fun W A' c' P' d' A'' c'' P'' d'' h1 h2 => HSM.out W (withF o OL) A' c' P' d' A'' c'' P'' d'' h1 h2 hq1 hq2)
                clear HDW HWL hq1 hq2
                generalize withF o OL = q at *
                go_upto_region 17 with (go_at_call 13; refine HMT.out.mono ?_; rintro r w13 ⟨A', c', P', d', rfl, hlq, hb13, ha13⟩; have HT := Lib.hid (HT.out.step hb13); have HGO := Lib.hid (HGO.out.step hb13); have HSO := Lib.hid (strs_mono (HSO.out.below hb13) hb13.size); have HAK := Lib.hid ha13; have HLQ := Lib.hid hlq; clear hlq hb13 ha13 c0 c1 c2 c3 c4 c5 c6 c7 c8 c9)
                have hba : Below w13.heap.size w13 (w13.alloc (.cells (objC q A' c' P' d') 25 (0, 0))) := (Below.refl _ w13).alloc (Nat.le_refl _) _
                have HPB := Lib.hid (box_new w13 25 (objC q A' c' P' d'))
                replace HT := Lib.hid (HT.out.step hba)
                replace HGO := Lib.hid (HGO.out.step hba)
                replace HSO := Lib.hid (strs_mono (HSO.out.below hba) hba.size)
                replace HAK := Lib.hid (HAK.out.step hba)
                replace HLQ := Lib.hid (HLQ.out.step hba)
                clear hba
                generalize w13.alloc (.cells (objC q A' c' P' d') 25 (0, 0)) = W14 at *
                generalize w13.heap.size = gp at *
                have st0 := HT.out.sb.cell 0
                have mb0 := HT.out.mb.cell 0
                rcases (by omega : stop < 0 ∨ (0 ≤ stop ∧ (k : Int) ≤ stop)) with hneg | ⟨hpos, hge⟩
                all_goals
                  first
                    | (have s1 : ¬ (0 : Int) ≤ stop := by omega
                       clear hneg)
                    | (have s1 : (0 : Int) ≤ stop := by omega
                       have s2 : ¬ stop < (k : Int) := by omega
                       clear hpos hge)
                  clear hin
                  go_wp2_with fail
                  have HT := Lib.hid (HT.out.step (Below.refl _ W14).drew)
                  have HGO := Lib.hid (HGO.out.step (Below.refl _ W14).drew)
                  have HSO := Lib.hid (show Strs W14.drew W14.drew.heap.size Ao OL from strs_mono (HSO.out.below (Below.refl _ W14).drew) (Nat.le_refl _))
                  have HAK := Lib.hid (HAK.out.step (Below.refl _ W14).drew)
                  have HLQ := Lib.hid (HLQ.out.step (Below.refl _ W14).drew)
                  have HPB := Lib.hid (HPB.out.step (Below.refl _ W14).drew)
                  clear st0 mb0
                  refine wp_region_seq (fun W => BoxAt W V.heap.size 3 #[.int .i64 k] ∧ BoxAt W gm 30 #[.slice Am k cm] ∧ BoxAt W gp 25 (objC q A' c' P' d') ∧ BoxAt W w.heap.size 25 (objC o A c P d) ∧ BoxAt W W8.heap.size 23 #[.slice Ao k co]) [(0, false, 0), (1, false, 1), (2, false, 3), (3, false, 7), (4, false, 15), (5, false, 31), (6, false, 63), (7, false, 127), (8, false, 255), (9, false, 511), (10, false, 1023), (11, false, 2047), (12, true, 4095), (13, true, 8191), (14, false, 16383), (15, false, 32767)]
                    16 (by kernel_rfl) (by kernel_rfl) (by kernel_rfl) (fun d _ _ _ _ h => by cases d <;> exact h) (by kernel_rfl) (by kernel_rfl) ⟨HAK.out, HT.out.mb, HPB.out, HT.out.ob, HGO.out⟩ ?_
                  generalize W14.drew = W15 at *
                  refine seqH_take (.int .i64 0) rfl (Or.inl ⟨by rfl, fun W hW => by clear hW; go_simp⟩) ?_
                  go_simp
                  refine seqH_take (.bool true) rfl (Or.inl ⟨by rfl, fun W hW => by clear hW; go_simp⟩) ?_
                  go_simp
                  refine seqH_take (.bool true) rfl (Or.inl ⟨by rfl, fun W hW => by clear hW; go_simp⟩) ?_
                  go_simp
                  refine seqH_take (.int .i64 k) rfl (Or.inl ⟨by rfl, fun W hW => by have hx := hW.1.cell 0; clear hW; go_simp⟩) ?_
                  go_simp
                  refine seqH_take (.slice Am k cm) rfl (Or.inl ⟨by rfl, fun W hW => by have hx := hW.2.1.cell 0; clear hW; go_simp⟩) ?_
                  go_simp
                  refine seqH_take (.int .i64 k) rfl (Or.inl ⟨by rfl, fun W hW => by clear hW; go_simp⟩) ?_
                  go_simp
                  refine seqH_take (.bool true) rfl (Or.inl ⟨by rfl, fun W hW => by clear hW; go_simp⟩) ?_
                  go_simp
                  refine seqH_take (.bool true) rfl (Or.inl ⟨by rfl, fun W hW => by clear hW; go_simp⟩) ?_
                  go_simp
                  refine seqH_take (.bool true) rfl (Or.inl ⟨by rfl, fun W hW => by clear hW; go_simp⟩) ?_
                  go_simp
                  refine seqH_take (.agg (objC q A' c' P' d')) rfl (yields_load 25 (.tmp 12) rfl (by rfl) gp rfl 25 _ (0, 0) _ (fun W hW => hW.2.2.1) Try.underlying25 rfl ob_size) ?_
                  go_simp
                  refine seqH_take (.agg (objC o A c P d)) rfl (yields_load 25 (.tmp 3) rfl (by rfl) w.heap.size rfl 25 _ (0, 0) _ (fun W hW => hW.2.2.2.1) Try.underlying25 rfl ob_size) ?_
                  go_simp
                  refine seqH_take (.slice Ao k co) rfl (Or.inl ⟨by rfl, fun W hW => by have hx := hW.2.2.2.2.cell 0; clear hW; go_simp⟩) ?_
                  go_simp
                  refine seqH_call rfl (by rfl) (fun K hK => ?_)
                  have HK := Lib.hid hK
                  clear hK
                  go_simp
                  refine (HDW2.out _ _ _ HT.out.all HSO.out HCAP.out).mono ?_
                  rintro r w16 ⟨⟨A'', c'', P'', d'', rfl, hlw⟩, hb16⟩
                  have HLW := Lib.hid hlw
                  replace HT := Lib.hid (HT.out.step hb16)
                  replace HGO := Lib.hid (HGO.out.step hb16)
                  replace HAK := Lib.hid (HAK.out.step hb16)
                  replace HLQ := Lib.hid (HLQ.out.step hb16)
                  replace HPB := Lib.hid (HPB.out.step hb16)
                  clear hlw hb16
                  refine HK.out _ _ ⟨HAK.out, HT.out.mb, HPB.out, HT.out.ob, HGO.out⟩ ?_
                  clear HK K
                  go_simp
                  refine seqH_call rfl (by rfl) (fun K hK => ?_)
                  have HK := Lib.hid hK
                  clear hK
                  go_simp
                  refine (HQS.out _ _ _ _ _ _ _ _ _ HLQ.out HLW.out).mono ?_
                  rintro r w17 ⟨rfl, hb17⟩
                  replace HT := Lib.hid (HT.out.step hb17)
                  replace HGO := Lib.hid (HGO.out.step hb17)
                  replace HAK := Lib.hid (HAK.out.step hb17)
                  replace HPB := Lib.hid (HPB.out.step hb17)
                  clear hb17
                  refine HK.out _ _ ⟨HAK.out, HT.out.mb, HPB.out, HT.out.ob, HGO.out⟩ ?_
                  clear HK K
                  go_simp
                  refine seqH_take (.bool true) rfl (Or.inl ⟨by rfl, fun W hW => by clear hW; go_simp⟩) ?_
                  go_simp
                  refine seqH_take (.bool true) rfl (Or.inl ⟨by rfl, fun W hW => by clear hW; go_simp⟩) ?_
                  go_simp
                  refine seqH_done ?_
                  go_wp2
                  go_ret
                  exact ⟨rfl, HT.out.below⟩
      · have HK := Lib.hid hK
        clear hK
        go_simp
        have HGM := Lib.hid (show w.heap.size + 2 ≤ W0.heap.size from HP.out.sb.lt)
        have hba : Below W0.heap.size W0 (W0.alloc (.cells #[.slice none 0 0] 30 (0, 0))) := (Below.refl _ _).alloc (Nat.le_refl _) _
        have HBX := Lib.hid (box_new W0 30 #[.slice none 0 0])
        replace HP := Lib.hid (HP.out.step hba)
        clear hba
        refine HK.out _ _ HP.out.ob ?_
        clear HK K
        generalize W0.alloc (.cells #[.slice none 0 0] 30 (0, 0)) = wa at *
        generalize W0.heap.size = gm at *
        go_simp
        refine trH_call rfl (by rfl) (fun K hK => ?_)
        have HK := Lib.hid hK
        clear hK
        go_simp
        refine (HOF.out _ HP.out.all).mono ?_
        rintro r w7 ⟨⟨Ae, ce, rfl, hre⟩, hb7⟩
        have HE := Lib.hid (ed_rec2 hre)
        replace HP := Lib.hid (HP.out.step hb7)
        replace HBX := Lib.hid (HBX.out.step hb7)
        clear hb7 hre
        refine HK.out _ _ HP.out.ob ?_
        clear HK K
        go_simp
        refine trH_call rfl (by rfl) (fun K hK => ?_)
        have HK := Lib.hid hK
        clear hK
        go_simp
        refine (HDF.out _ HP.out.all).mono ?_
        rintro r w8 ⟨⟨Am, cm, rfl, hrm⟩, hb8⟩
        have HM := Lib.hid (ed_rec2 hrm)
        replace HP := Lib.hid (HP.out.step hb8)
        replace HE := Lib.hid ((HE.out.below hb8).mono hb8.size)
        replace HBX := Lib.hid (HBX.out.step hb8)
        clear hb8 hrm
        refine HK.out _ _ HP.out.ob ?_
        clear HK K
        go_simp
        refine trH_take (.slice Ae n ce) rfl (Or.inl ⟨by rfl, fun W _ => by go_simp⟩) ?_
        go_simp
        refine trH_call rfl (by rfl) (fun K hK => ?_)
        have HK := Lib.hid hK
        clear hK
        have f0 := HBX.out.free 0
        have k0 := HBX.out.cell 0
        go_simp
        have HTL := Lib.hid (tl_start HP.out HBX.out HGM.out HM.out HE.out (n := n) (cm := cm))
        refine HK.out _ _ HTL.out.ob ?_
        clear HK K f0 k0
        generalize w8.setCell ⟨gm, 0, none⟩ (.slice Am n cm) = W7 at *
        go_simp
        refine trH_done ?_
        clear HP HBX HM HE
        go_wp2_with fail
        have HTL := Lib.hid (HTL.out.step (Below.refl _ W7).drew)
        refine wp_region_seq (fun W => BoxAt W w.heap.size 25 (objC o A c P d) ∧ BoxAt W gm 30 #[.slice Am n cm]) [(0, false, 0), (1, false, 1), (2, false, 3), (3, false, 7), (4, false, 15), (5, false, 31), (6, false, 63), (8, false, 127), (7, true, 383), (9, true, 511), (10, true, 1023), (11, false, 2047), (12, false, 4095)]
          13 (by kernel_rfl) (by kernel_rfl) (by kernel_rfl) (fun d _ _ _ _ h => by cases d <;> exact h) (by kernel_rfl) (by kernel_rfl) ⟨HTL.out.ob, HTL.out.mb⟩ ?_
        generalize W7.drew = W9 at *
        refine seqH_take (.slice Ae n ce) rfl (Or.inl ⟨by rfl, fun W hW => by clear hW; go_simp⟩) ?_
        go_simp
        refine seqH_take (.int .i64 n) rfl (Or.inl ⟨by rfl, fun W hW => by clear hW; go_simp⟩) ?_
        go_simp
        refine seqH_take (.slice Am n cm) rfl (Or.inl ⟨by rfl, fun W hW => by have hx := hW.2.cell 0; clear hW; go_simp⟩) ?_
        go_simp
        refine seqH_take (.int .i64 n) rfl (Or.inl ⟨by rfl, fun W hW => by clear hW; go_simp⟩) ?_
        go_simp
        refine seqH_take (.bool false) rfl (Or.inl ⟨by rfl, fun W hW => by clear hW; go_simp⟩) ?_
        go_simp
        refine seqH_take (.bool false) rfl (Or.inl ⟨by rfl, fun W hW => by clear hW; go_simp⟩) ?_
        go_simp
        refine seqH_take (.agg (objC o A c P d)) rfl (yields_load 25 (.tmp 3) rfl (by rfl) w.heap.size rfl 25 _ (0, 0) _ (fun W hW => hW.1) Try.underlying25 rfl ob_size) ?_
        go_simp
        refine seqH_take (.agg (objC o A c P d)) rfl (yields_load 25 (.tmp 3) rfl (by rfl) w.heap.size rfl 25 _ (0, 0) _ (fun W hW => hW.1) Try.underlying25 rfl ob_size) ?_
        go_simp
        refine seqH_call rfl (by rfl) (fun K hK => ?_)
        have HK := Lib.hid hK
        clear hK
        go_simp
        refine (HNM.out _ HTL.out.all).mono ?_
        rintro r w10 ⟨⟨A1, c1, rfl, hst1⟩, hb10⟩
        have HS1 := Lib.hid hst1
        replace HTL := Lib.hid (HTL.out.step hb10)
        clear hst1 hb10
        refine HK.out _ _ ⟨HTL.out.ob, HTL.out.mb⟩ ?_
        clear HK K
        go_simp
        refine seqH_call rfl (by rfl) (fun K hK => ?_)
        have HK := Lib.hid hK
        clear hK
        go_simp
        refine (HDN.out _ HTL.out.all).mono ?_
        rintro r w11 ⟨⟨A2, c2, rfl, hst2⟩, hb11⟩
        have HS2 := Lib.hid hst2
        replace HS1 := Lib.hid (strs_mono (HS1.out.below hb11) hb11.size)
        replace HTL := Lib.hid (HTL.out.step hb11)
        clear hst2 hb11
        refine HK.out _ _ ⟨HTL.out.ob, HTL.out.mb⟩ ?_
        clear HK K
        go_simp
        refine seqH_call rfl (by rfl) (fun K hK => ?_)
        have HK := Lib.hid hK
        clear hK
        go_simp
        refine (HTX.out _ _ _ _ _ HS1.out HS2.out).mono ?_
        rintro r W8 ⟨rfl, hb12⟩
        replace HTL := Lib.hid (HTL.out.step hb12)
        clear hb12
        refine HK.out _ _ ⟨HTL.out.ob, HTL.out.mb⟩ ?_
        clear HK K
        go_simp
        refine seqH_take (.bool false) rfl (Or.inl ⟨by rfl, fun W hW => by clear hW; go_simp⟩) ?_
        go_simp
        refine seqH_take (.bool false) rfl (Or.inl ⟨by rfl, fun W hW => by clear hW; go_simp⟩) ?_
        go_simp
        refine seqH_done ?_
        clear HS1 HS2
        have HG8 := Lib.hid (box_new W8 23 #[.slice none 0 0])
        have HB8 := Lib.hid (show Below W8.heap.size W8 (W8.alloc (.cells #[.slice none 0 0] 23 (0, 0))) from (Below.refl _ W8).alloc (Nat.le_refl _) _)
        go_wp2_with fail
        go_loopg [10] n (fun g v wr => ∃ (k : Nat) (Ao : Option Addr) (co : Nat), k ≤ n ∧ g = n - k ∧ v = .int .i64 k ∧ Below W8.heap.size W8 wr ∧ BoxAt wr W8.heap.size 23 #[.slice Ao k co] ∧ wr.ownsRow (W8.heap.size + 1) 9 1 (.slice Ao k co) k ((OL.take k).flatMap stV))
        case atStart => exact ⟨0, none, 0, Nat.zero_le _, rfl, rfl, HB8.out, HG8.out, World.ownsRow_nil _ _ _ _⟩
        case round =>
          obtain ⟨k, Ao, co, hkn, rfl, rfl, hbl, hgo, hrw⟩ := hrel
          have HT := Lib.hid (HTL.out.step hbl)
          by_cases hlt : k < n
          · have h1 : (k : Int) < n := by omega
            have h0 : (0 : Int) ≤ k := by omega
            have hw1 : IntKind.i64.wrap ((k : Int) + 1) = (k : Int) + 1 := IntWalk.i64_in _ (by omega)
            obtain ⟨ade, ee, k1, k2⟩ := edge_cells HT.out.hl (i := k) (by have := HQN.out; omega)
            obtain ⟨adm, em, m1, m2⟩ := edge_cells HT.out.hm (i := k) (by have := HQN.out; omega)
            obtain ⟨adm', em', n1, _⟩ := edge_cells HTL.out.hm (i := k) (by have := HQN.out; omega)
            rw [em] at em'
            injection em' with em'
            subst em'
            have hOk := HOG.out k hlt
            have hsz := HSI.out k hlt
            have hts : OL.take (k + 1) = OL.take k ++ [OL.getD k ByteArray.empty] := take_snoc (by have := HON.out; omega)
            rw [hOk] at hts
            have hlen : (OL.take k).length = k := by rw [List.length_take]; have := HON.out; omega
            have hlk : (OL.take (k + 1)).length = k + 1 := by rw [List.length_take]; have := HON.out; omega
            generalize Q.getD k default = y at *
            obtain ⟨x, kd⟩ := y
            simp only at k1 k2 m1 m2 n1 hsz hts
            have HS := Lib.hid hts
            have hN := fun W => neq_ed x kd W
            have hcc : ¬ 9223372036854775807 < (⟨#[t]⟩ : ByteArray).size + x.size := by have : (⟨#[t]⟩ : ByteArray).size = 1 := rfl; omega
            have hcc2 : ¬ 9223372036854775807 < 1 + x.size := by omega
            have mb0 := HT.out.mb.cell 0
            have HGMW := Lib.hid (show gm < W8.heap.size from HTL.out.mb.lt)
            have HCX := Lib.hid (show ∀ W, BoxAt W gm 30 #[.slice Am n cm] → Below W8.heap.size W8 W → BoxAt W gm 30 #[.slice Am n cm] ∧ W.cell? (adm.add (k * 2)) = some (.string x) from fun W h hb => ⟨h, (hb.cell (World.block_lt_of_cell? _ _ n1)).trans n1⟩)
            have hdd : Below wr.heap.size wr wr.drew.drew := (Below.refl _ wr).drew.drew
            have HSS := Lib.hid (HCX.out wr.drew.drew (HT.out.step hdd).mb hbl.drew.drew)
            have HGO := Lib.hid (hgo.step hdd)
            have HRW := Lib.hid (own_step hrw hdd)
            have HBL := Lib.hid (show Below W8.heap.size W8 wr.drew.drew from hbl.drew.drew)
            replace HT := Lib.hid (HT.out.step hdd)
            subst ee em
            clear hbl hgo hrw hdd hts hOk n1
            go_wp2_with fail
            refine wp_region_still_lit (by kernel_rfl) (by kernel_rfl) ?_
            change wpStill _ _ (World.drew _) (fun a' => Exit.then _ _ _ a' (World.drew _)) _ _
            iterate 9 ((with_reducible refine wpStill_step ?_); intro K hK; go_simp; refine hK _ ?_; clear hK K)
            refine wpStill_nil ?_
            clear k1 k2 m1 m2 mb0
            go_wp2_with fail
            refine wp_region_tree (fun W => BoxAt W gm 30 #[.slice (some adm) n cm] ∧ W.cell? (adm.add (k * 2)) = some (.string x)) (.take 1 0 (.take 4 2 (.take 5 18 (.take 6 50 (.take 7 114 (.take 8 242 (.fork 0 2 498 (.call 2 499 (.call 3 503 (.take 9 511 (.call 10 1023 (.call 11 2047 (.call 12 4095 .done)))))) (.fork 0 3 502 (.call 3 503 (.take 9 511 (.call 10 1023 (.call 11 2047 (.call 12 4095 .done))))) (.take 9 510 (.fork 0 10 1022 (.call 10 1023 (.call 11 2047 (.call 12 4095 .done))) (.call 0 2046 (.call 11 2047 (.call 12 4095 .done))))))))))))) 13 (by kernel_rfl) (by kernel_rfl) (by kernel_rfl) (fun d _ _ _ _ h => by cases d <;> exact h) (by kernel_rfl) HSS.out ?_
            generalize hW0 : wr.drew.drew = W0 at *
            clear hW0
            refine trH_take (.int .u8 t.toNat) rfl (Or.inl ⟨by rfl, fun W hW => by clear hW; go_simp⟩) ?_
            go_simp
            refine trH_take (.slice (some adm) n cm) rfl (Or.inl ⟨by rfl, fun W hW => by have hx := hW.1.cell 0; clear hW; go_simp⟩) ?_
            go_simp
            refine trH_take (.int .i64 k) rfl (Or.inl ⟨by rfl, fun W hW => by clear hW; go_simp⟩) ?_
            go_simp
            refine trH_take (.pointer (some (adm.add (k * 2)))) rfl (Or.inl ⟨by rfl, fun W hW => by clear hW; go_simp⟩) ?_
            go_simp
            refine trH_take (.pointer (some (adm.add (k * 2)))) rfl (Or.inl ⟨by rfl, fun W hW => by clear hW; go_simp⟩) ?_
            go_simp
            refine trH_take (.string x) rfl (Or.inl ⟨by rfl, fun W hW => by have hx := hW.2; clear hW; go_simp⟩) ?_
            go_simp
            refine trH_fork rfl (by rfl) rfl (by rfl) (fun K hK => ?_) (fun K hK => ?_)
            · have HK := Lib.hid hK
              clear hK
              have k0 : W0.cell? ⟨W8.heap.size, 0, none⟩ = some (.slice Ao k co) := HGO.out.cell 0
              go_simp
              refine HK.out _ _ HSS.out ?_
              clear HK K k0
              go_simp
              refine trH_call rfl (by rfl) (fun K hK => ?_)
              have HK := Lib.hid hK
              clear hK
              go_simp
              have hba : Below W0.heap.size W0 (W0.alloc (.cells #[.int .u8 t.toNat] 5)) := (Below.refl _ _).alloc (Nat.le_refl _) _
              have HBB := Lib.hid (box_new W0 5 #[.int .u8 t.toNat])
              have HWZ := Lib.hid (show W0.heap.size < (W0.alloc (.cells #[.int .u8 t.toNat] 5)).heap.size from by simp)
              replace HT := Lib.hid (HT.out.step hba)
              replace HGO := Lib.hid (HGO.out.step hba)
              replace HRW := Lib.hid (own_step HRW.out hba)
              replace HBL := Lib.hid (HBL.out.trans (hba.mono HBL.out.size))
              replace HSS := Lib.hid (And.intro (HSS.out.1.step hba) ((hba.cell (World.block_lt_of_cell? _ _ HSS.out.2)).trans HSS.out.2))
              clear hba
              refine HK.out _ _ HSS.out ?_
              clear HK K
              generalize W0.alloc (.cells #[.int .u8 t.toNat] 5) = y1 at *
              generalize W0.heap.size = gb at *
              go_simp
              refine trH_call rfl (by rfl) (fun K hK => ?_)
              have HK := Lib.hid hK
              clear hK
              have hcv := conv_one HBB.out
              go_simp
              refine HK.out _ _ HSS.out ?_
              clear HK K hcv
              go_simp
              refine trH_take (.string ((⟨#[t]⟩ : ByteArray) ++ x)) rfl (Or.inl ⟨by rfl, fun W hW => by clear hW; go_simp⟩) ?_
              go_simp
              refine trH_call rfl (by rfl) (fun K hK => ?_)
              have HK := Lib.hid hK
              clear hK
              go_simp
              have HAP := Lib.hid (app_one HE1.out stV_len stV_one y1 (W8.heap.size + 1) Ao co (OL.take k) ((⟨#[t]⟩ : ByteArray) ++ x) 23 (by rw [hlen]; exact HRW.out) (by omega) HGO.out.lt)
              have hba : Below y1.heap.size y1 (y1.alloc (.cells #[.string ((⟨#[t]⟩ : ByteArray) ++ x)] 9)) := (Below.refl _ _).alloc (Nat.le_refl _) _
              replace HSS := Lib.hid (And.intro (HSS.out.1.step hba) ((hba.cell (World.block_lt_of_cell? _ _ HSS.out.2)).trans HSS.out.2))
              have HGO2 := Lib.hid (HGO.out.step hba)
              clear hba
              refine HK.out _ _ HSS.out ?_
              clear HK K
              go_simp
              refine trH_call rfl (by rfl) (fun K hK => ?_)
              have HK := Lib.hid hK
              clear hK
              obtain ⟨A4, c4, y2, hrun, ho1, hb1⟩ := HAP.out
              rw [← HS.out, hlk] at hrun ho1
              simp only [stV, hlen] at hrun
              have HRUN := Lib.hid hrun
              have HSS3 := Lib.hid (show BoxAt y2 gm 30 #[.slice (some adm) n cm] from (hb1.block _ (by have := HGMW.out; omega)).trans HT.out.mb)
              have HGO3 := Lib.hid (show BoxAt y2 W8.heap.size 23 #[.slice Ao k co] from (hb1.block _ (by omega)).trans HGO.out)
              have HBL3 := Lib.hid (HBL.out.trans (hb1.mono (by omega)))
              have HRW3 := Lib.hid ho1
              clear hrun ho1 hb1
              unfold Oper.wp
              simp [execOp, resolve, invoke, builtin, Act.eval, HRUN.out, Result.andThen, Oper.upon]
              refine HK.out _ _ (HCX.out _ HSS3.out HBL3.out) ?_
              clear HK K HRUN
              go_simp
              refine trH_call rfl (by rfl) (fun K hK => ?_)
              have HK := Lib.hid hK
              clear hK
              have f0 := HGO3.out.free 0
              have k0 := HGO3.out.cell 0
              go_simp
              have HFIN := Lib.hid (show Below W8.heap.size W8 (y2.setCell ⟨W8.heap.size, 0, none⟩ (.slice A4 (k + 1) c4)) ∧ BoxAt (y2.setCell ⟨W8.heap.size, 0, none⟩ (.slice A4 (k + 1) c4)) W8.heap.size 23 #[.slice A4 (k + 1) c4] ∧ (y2.setCell ⟨W8.heap.size, 0, none⟩ (.slice A4 (k + 1) c4)).ownsRow (W8.heap.size + 1) 9 1 (.slice A4 (k + 1) c4) (k + 1) ((OL.take (k + 1)).flatMap stV) from ⟨HBL3.out.setCell (p := ⟨W8.heap.size, 0, none⟩) (Nat.le_refl _) _, Hg.heap_setCell_cells HGO3.out 0 _, own_set1 HRW3.out⟩)
              have HMB := Lib.hid (show BoxAt (y2.setCell ⟨W8.heap.size, 0, none⟩ (.slice A4 (k + 1) c4)) gm 30 #[.slice (some adm) n cm] from (Below.heap_setCell _ _ _ _ (by have := HGMW.out; show gm ≠ W8.heap.size; omega)).trans HSS3.out)
              refine HK.out _ _ (HCX.out _ HMB.out HFIN.out.1) ?_
              clear HK K f0 k0
              go_simp
              refine trH_done ?_
              go_wp2
              go_roundg (n - (k + 1))
              case rel => exact ⟨k + 1, A4, c4, by omega, rfl, by go_num, HFIN.out.1, HFIN.out.2.1, HFIN.out.2.2⟩
              case measure => omega
            · have HK := Lib.hid hK
              clear hK
              go_simp
              have hba : Below W0.heap.size W0 (W0.alloc (.cells #[.int .u8 t.toNat] 5)) := (Below.refl _ _).alloc (Nat.le_refl _) _
              have HBB := Lib.hid (box_new W0 5 #[.int .u8 t.toNat])
              have HWZ := Lib.hid (show W0.heap.size < (W0.alloc (.cells #[.int .u8 t.toNat] 5)).heap.size from by simp)
              replace HT := Lib.hid (HT.out.step hba)
              replace HGO := Lib.hid (HGO.out.step hba)
              replace HRW := Lib.hid (own_step HRW.out hba)
              replace HBL := Lib.hid (HBL.out.trans (hba.mono HBL.out.size))
              replace HSS := Lib.hid (And.intro (HSS.out.1.step hba) ((hba.cell (World.block_lt_of_cell? _ _ HSS.out.2)).trans HSS.out.2))
              clear hba
              refine HK.out _ _ HSS.out ?_
              clear HK K
              generalize W0.alloc (.cells #[.int .u8 t.toNat] 5) = y1 at *
              generalize W0.heap.size = gb at *
              go_simp
              refine trH_fork rfl (by rfl) rfl (by rfl) (fun K hK => ?_) (fun K hK => ?_)
              · have HK := Lib.hid hK
                clear hK
                have k0 : y1.cell? ⟨W8.heap.size, 0, none⟩ = some (.slice Ao k co) := HGO.out.cell 0
                go_simp
                refine HK.out _ _ HSS.out ?_
                clear HK K k0
                go_simp
                refine trH_call rfl (by rfl) (fun K hK => ?_)
                have HK := Lib.hid hK
                clear hK
                have hcv := conv_one HBB.out
                go_simp
                refine HK.out _ _ HSS.out ?_
                clear HK K hcv
                go_simp
                refine trH_take (.string ((⟨#[t]⟩ : ByteArray) ++ x)) rfl (Or.inl ⟨by rfl, fun W hW => by clear hW; go_simp⟩) ?_
                go_simp
                refine trH_call rfl (by rfl) (fun K hK => ?_)
                have HK := Lib.hid hK
                clear hK
                go_simp
                have HAP := Lib.hid (app_one HE1.out stV_len stV_one y1 (W8.heap.size + 1) Ao co (OL.take k) ((⟨#[t]⟩ : ByteArray) ++ x) 23 (by rw [hlen]; exact HRW.out) (by omega) HGO.out.lt)
                have hba : Below y1.heap.size y1 (y1.alloc (.cells #[.string ((⟨#[t]⟩ : ByteArray) ++ x)] 9)) := (Below.refl _ _).alloc (Nat.le_refl _) _
                replace HSS := Lib.hid (And.intro (HSS.out.1.step hba) ((hba.cell (World.block_lt_of_cell? _ _ HSS.out.2)).trans HSS.out.2))
                have HGO2 := Lib.hid (HGO.out.step hba)
                clear hba
                refine HK.out _ _ HSS.out ?_
                clear HK K
                go_simp
                refine trH_call rfl (by rfl) (fun K hK => ?_)
                have HK := Lib.hid hK
                clear hK
                obtain ⟨A4, c4, y2, hrun, ho1, hb1⟩ := HAP.out
                rw [← HS.out, hlk] at hrun ho1
                simp only [stV, hlen] at hrun
                have HRUN := Lib.hid hrun
                have HSS3 := Lib.hid (show BoxAt y2 gm 30 #[.slice (some adm) n cm] from (hb1.block _ (by have := HGMW.out; omega)).trans HT.out.mb)
                have HGO3 := Lib.hid (show BoxAt y2 W8.heap.size 23 #[.slice Ao k co] from (hb1.block _ (by omega)).trans HGO.out)
                have HBL3 := Lib.hid (HBL.out.trans (hb1.mono (by omega)))
                have HRW3 := Lib.hid ho1
                clear hrun ho1 hb1
                unfold Oper.wp
                simp [execOp, resolve, invoke, builtin, Act.eval, HRUN.out, Result.andThen, Oper.upon]
                refine HK.out _ _ (HCX.out _ HSS3.out HBL3.out) ?_
                clear HK K HRUN
                go_simp
                refine trH_call rfl (by rfl) (fun K hK => ?_)
                have HK := Lib.hid hK
                clear hK
                have f0 := HGO3.out.free 0
                have k0 := HGO3.out.cell 0
                go_simp
                have HFIN := Lib.hid (show Below W8.heap.size W8 (y2.setCell ⟨W8.heap.size, 0, none⟩ (.slice A4 (k + 1) c4)) ∧ BoxAt (y2.setCell ⟨W8.heap.size, 0, none⟩ (.slice A4 (k + 1) c4)) W8.heap.size 23 #[.slice A4 (k + 1) c4] ∧ (y2.setCell ⟨W8.heap.size, 0, none⟩ (.slice A4 (k + 1) c4)).ownsRow (W8.heap.size + 1) 9 1 (.slice A4 (k + 1) c4) (k + 1) ((OL.take (k + 1)).flatMap stV) from ⟨HBL3.out.setCell (p := ⟨W8.heap.size, 0, none⟩) (Nat.le_refl _) _, Hg.heap_setCell_cells HGO3.out 0 _, own_set1 HRW3.out⟩)
                have HMB := Lib.hid (show BoxAt (y2.setCell ⟨W8.heap.size, 0, none⟩ (.slice A4 (k + 1) c4)) gm 30 #[.slice (some adm) n cm] from (Below.heap_setCell _ _ _ _ (by have := HGMW.out; show gm ≠ W8.heap.size; omega)).trans HSS3.out)
                refine HK.out _ _ (HCX.out _ HMB.out HFIN.out.1) ?_
                clear HK K f0 k0
                go_simp
                refine trH_done ?_
                go_wp2
                go_roundg (n - (k + 1))
                case rel => exact ⟨k + 1, A4, c4, by omega, rfl, by go_num, HFIN.out.1, HFIN.out.2.1, HFIN.out.2.2⟩
                case measure => omega
              · have HK := Lib.hid hK
                clear hK
                have hcv := conv_one HBB.out
                go_simp
                refine HK.out _ _ HSS.out ?_
                clear HK K hcv
                go_simp
                refine trH_take (.string ((⟨#[t]⟩ : ByteArray) ++ x)) rfl (Or.inl ⟨by rfl, fun W hW => by clear hW; go_simp⟩) ?_
                go_simp
                refine trH_fork rfl (by rfl) rfl (by rfl) (fun K hK => ?_) (fun K hK => ?_)
                · have HK := Lib.hid hK
                  clear hK
                  have k0 : y1.cell? ⟨W8.heap.size, 0, none⟩ = some (.slice Ao k co) := HGO.out.cell 0
                  go_simp
                  refine HK.out _ _ HSS.out ?_
                  clear HK K k0
                  go_simp
                  refine trH_call rfl (by rfl) (fun K hK => ?_)
                  have HK := Lib.hid hK
                  clear hK
                  go_simp
                  have HAP := Lib.hid (app_one HE1.out stV_len stV_one y1 (W8.heap.size + 1) Ao co (OL.take k) ((⟨#[t]⟩ : ByteArray) ++ x) 23 (by rw [hlen]; exact HRW.out) (by omega) HGO.out.lt)
                  have hba : Below y1.heap.size y1 (y1.alloc (.cells #[.string ((⟨#[t]⟩ : ByteArray) ++ x)] 9)) := (Below.refl _ _).alloc (Nat.le_refl _) _
                  replace HSS := Lib.hid (And.intro (HSS.out.1.step hba) ((hba.cell (World.block_lt_of_cell? _ _ HSS.out.2)).trans HSS.out.2))
                  have HGO2 := Lib.hid (HGO.out.step hba)
                  clear hba
                  refine HK.out _ _ HSS.out ?_
                  clear HK K
                  go_simp
                  refine trH_call rfl (by rfl) (fun K hK => ?_)
                  have HK := Lib.hid hK
                  clear hK
                  obtain ⟨A4, c4, y2, hrun, ho1, hb1⟩ := HAP.out
                  rw [← HS.out, hlk] at hrun ho1
                  simp only [stV, hlen] at hrun
                  have HRUN := Lib.hid hrun
                  have HSS3 := Lib.hid (show BoxAt y2 gm 30 #[.slice (some adm) n cm] from (hb1.block _ (by have := HGMW.out; omega)).trans HT.out.mb)
                  have HGO3 := Lib.hid (show BoxAt y2 W8.heap.size 23 #[.slice Ao k co] from (hb1.block _ (by omega)).trans HGO.out)
                  have HBL3 := Lib.hid (HBL.out.trans (hb1.mono (by omega)))
                  have HRW3 := Lib.hid ho1
                  clear hrun ho1 hb1
                  unfold Oper.wp
                  simp [execOp, resolve, invoke, builtin, Act.eval, HRUN.out, Result.andThen, Oper.upon]
                  refine HK.out _ _ (HCX.out _ HSS3.out HBL3.out) ?_
                  clear HK K HRUN
                  go_simp
                  refine trH_call rfl (by rfl) (fun K hK => ?_)
                  have HK := Lib.hid hK
                  clear hK
                  have f0 := HGO3.out.free 0
                  have k0 := HGO3.out.cell 0
                  go_simp
                  have HFIN := Lib.hid (show Below W8.heap.size W8 (y2.setCell ⟨W8.heap.size, 0, none⟩ (.slice A4 (k + 1) c4)) ∧ BoxAt (y2.setCell ⟨W8.heap.size, 0, none⟩ (.slice A4 (k + 1) c4)) W8.heap.size 23 #[.slice A4 (k + 1) c4] ∧ (y2.setCell ⟨W8.heap.size, 0, none⟩ (.slice A4 (k + 1) c4)).ownsRow (W8.heap.size + 1) 9 1 (.slice A4 (k + 1) c4) (k + 1) ((OL.take (k + 1)).flatMap stV) from ⟨HBL3.out.setCell (p := ⟨W8.heap.size, 0, none⟩) (Nat.le_refl _) _, Hg.heap_setCell_cells HGO3.out 0 _, own_set1 HRW3.out⟩)
                  have HMB := Lib.hid (show BoxAt (y2.setCell ⟨W8.heap.size, 0, none⟩ (.slice A4 (k + 1) c4)) gm 30 #[.slice (some adm) n cm] from (Below.heap_setCell _ _ _ _ (by have := HGMW.out; show gm ≠ W8.heap.size; omega)).trans HSS3.out)
                  refine HK.out _ _ (HCX.out _ HMB.out HFIN.out.1) ?_
                  clear HK K f0 k0
                  go_simp
                  refine trH_done ?_
                  go_wp2
                  go_roundg (n - (k + 1))
                  case rel => exact ⟨k + 1, A4, c4, by omega, rfl, by go_num, HFIN.out.1, HFIN.out.2.1, HFIN.out.2.2⟩
                  case measure => omega
                · have HK := Lib.hid hK
                  clear hK
                  go_simp
                  have HAP := Lib.hid (app_one HE1.out stV_len stV_one y1 (W8.heap.size + 1) Ao co (OL.take k) ((⟨#[t]⟩ : ByteArray) ++ x) 23 (by rw [hlen]; exact HRW.out) (by omega) HGO.out.lt)
                  have hba : Below y1.heap.size y1 (y1.alloc (.cells #[.string ((⟨#[t]⟩ : ByteArray) ++ x)] 9)) := (Below.refl _ _).alloc (Nat.le_refl _) _
                  replace HSS := Lib.hid (And.intro (HSS.out.1.step hba) ((hba.cell (World.block_lt_of_cell? _ _ HSS.out.2)).trans HSS.out.2))
                  have HGO2 := Lib.hid (HGO.out.step hba)
                  clear hba
                  refine HK.out _ _ HSS.out ?_
                  clear HK K
                  go_simp
                  refine trH_call rfl (by rfl) (fun K hK => ?_)
                  have HK := Lib.hid hK
                  clear hK
                  have k0 : (y1.alloc (.cells #[.string ((⟨#[t]⟩ : ByteArray) ++ x)] 9)).cell? ⟨W8.heap.size, 0, none⟩ = some (.slice Ao k co) := HGO2.out.cell 0
                  go_simp
                  refine HK.out _ _ HSS.out ?_
                  clear HK K k0
                  go_simp
                  refine trH_call rfl (by rfl) (fun K hK => ?_)
                  have HK := Lib.hid hK
                  clear hK
                  obtain ⟨A4, c4, y2, hrun, ho1, hb1⟩ := HAP.out
                  rw [← HS.out, hlk] at hrun ho1
                  simp only [stV, hlen] at hrun
                  have HRUN := Lib.hid hrun
                  have HSS3 := Lib.hid (show BoxAt y2 gm 30 #[.slice (some adm) n cm] from (hb1.block _ (by have := HGMW.out; omega)).trans HT.out.mb)
                  have HGO3 := Lib.hid (show BoxAt y2 W8.heap.size 23 #[.slice Ao k co] from (hb1.block _ (by omega)).trans HGO.out)
                  have HBL3 := Lib.hid (HBL.out.trans (hb1.mono (by omega)))
                  have HRW3 := Lib.hid ho1
                  clear hrun ho1 hb1
                  unfold Oper.wp
                  simp [execOp, resolve, invoke, builtin, Act.eval, HRUN.out, Result.andThen, Oper.upon]
                  refine HK.out _ _ (HCX.out _ HSS3.out HBL3.out) ?_
                  clear HK K HRUN
                  go_simp
                  refine trH_call rfl (by rfl) (fun K hK => ?_)
                  have HK := Lib.hid hK
                  clear hK
                  have f0 := HGO3.out.free 0
                  have k0 := HGO3.out.cell 0
                  go_simp
                  have HFIN := Lib.hid (show Below W8.heap.size W8 (y2.setCell ⟨W8.heap.size, 0, none⟩ (.slice A4 (k + 1) c4)) ∧ BoxAt (y2.setCell ⟨W8.heap.size, 0, none⟩ (.slice A4 (k + 1) c4)) W8.heap.size 23 #[.slice A4 (k + 1) c4] ∧ (y2.setCell ⟨W8.heap.size, 0, none⟩ (.slice A4 (k + 1) c4)).ownsRow (W8.heap.size + 1) 9 1 (.slice A4 (k + 1) c4) (k + 1) ((OL.take (k + 1)).flatMap stV) from ⟨HBL3.out.setCell (p := ⟨W8.heap.size, 0, none⟩) (Nat.le_refl _) _, Hg.heap_setCell_cells HGO3.out 0 _, own_set1 HRW3.out⟩)
                  have HMB := Lib.hid (show BoxAt (y2.setCell ⟨W8.heap.size, 0, none⟩ (.slice A4 (k + 1) c4)) gm 30 #[.slice (some adm) n cm] from (Below.heap_setCell _ _ _ _ (by have := HGMW.out; show gm ≠ W8.heap.size; omega)).trans HSS3.out)
                  refine HK.out _ _ (HCX.out _ HMB.out HFIN.out.1) ?_
                  clear HK K f0 k0
                  go_simp
                  refine trH_done ?_
                  go_wp2
                  go_roundg (n - (k + 1))
                  case rel => exact ⟨k + 1, A4, c4, by omega, rfl, by go_num, HFIN.out.1, HFIN.out.2.1, HFIN.out.2.2⟩
                  case measure => omega
          · have h1 : ¬ (k : Int) < n := by omega
            obtain rfl : k = n := by omega
            have HF := Lib.hid (show OL.take k = OL from List.take_of_length_le (by have := HON.out; omega))
            rw [HF.out] at hrw
            have HCAP := Lib.hid (own_le hrw)
            have HSO := Lib.hid (plain_strs hrw)
            have HGO := Lib.hid hgo
            obtain ⟨V, hV⟩ : ∃ V, V = wr := ⟨wr, rfl⟩
            subst hV
            have HBA := Lib.hid (show Below V.heap.size V (V.alloc (.cells #[.int .i64 0] 3 (0, 0))) from (Below.refl _ V).alloc (Nat.le_refl _) _)
            obtain ⟨c0, c1, c2, c3, c4, c5, c6, c7, c8, c9⟩ := (HT.out.step HBA.out).ob.ten
            clear hbl hgo hrw
            by_cases hin : 0 ≤ stop ∧ stop < k
            · have HMT := Lib.hid (mapStop HT.out HGO.out HSO.out HQN.out HON.out (by omega) HQE.out (by omega) (by omega) hin.1 hin.2)
              have s1 : (0 : Int) ≤ stop := hin.1
              have s2 : stop < k := hin.2
              have hw3 : IntKind.i64.wrap (stop + 1) = stop + 1 := IntWalk.i64_in _ (by omega)
              clear hin
              go_upto_region 17 with (go_at_call 13; refine HMT.out.mono ?_; rintro r w13 ⟨rfl, hb13, ha13⟩; have HT := Lib.hid (HT.out.step hb13); have HAK := Lib.hid ha13; clear hb13 ha13 c0 c1 c2 c3 c4 c5 c6 c7 c8 c9)
              have hba : Below w13.heap.size w13 (w13.alloc (.cells #[.int .i64 0, .string ⟨#[]⟩, .slice none 0 0, .string ⟨#[]⟩, .slice none 0 0, .string ⟨#[]⟩, .int .i64 0, .string ⟨#[]⟩, .string ⟨#[]⟩, .int .i64 0] 25 (0, 0))) := (Below.refl _ w13).alloc (Nat.le_refl _) _
              have HPB := Lib.hid (box_new w13 25 #[.int .i64 0, .string ⟨#[]⟩, .slice none 0 0, .string ⟨#[]⟩, .slice none 0 0, .string ⟨#[]⟩, .int .i64 0, .string ⟨#[]⟩, .string ⟨#[]⟩, .int .i64 0])
              replace HT := Lib.hid (HT.out.step hba)
              replace HAK := Lib.hid (HAK.out.step hba)
              clear hba
              generalize w13.alloc (.cells #[.int .i64 0, .string ⟨#[]⟩, .slice none 0 0, .string ⟨#[]⟩, .slice none 0 0, .string ⟨#[]⟩, .int .i64 0, .string ⟨#[]⟩, .string ⟨#[]⟩, .int .i64 0] 25 (0, 0)) = W14 at *
              generalize w13.heap.size = gp at *
              have HZZ := Lib.hid (show Calls Try.prog 15 #[.agg #[.int .i64 0, .string ⟨#[]⟩, .slice none 0 0, .string ⟨#[]⟩, .slice none 0 0, .string ⟨#[]⟩, .int .i64 0, .string ⟨#[]⟩, .string ⟨#[]⟩, .int .i64 0], .agg #[.int .i64 0, .string ⟨#[]⟩, .slice none 0 0, .string ⟨#[]⟩, .slice none 0 0, .string ⟨#[]⟩, .int .i64 0, .string ⟨#[]⟩, .string ⟨#[]⟩, .int .i64 0]] W14 fun e w' => e = .returned (.bool true) ∧ Below W14.heap.size W14 w' from HSM.out W14 zero none 0 none 0 none 0 none 0 ⟨recs_nil _ _ _, fun i hi => by cases hi⟩ ⟨recs_nil _ _ _, fun i hi => by cases hi⟩ (by decide) (by decide))
              have st0 := HT.out.sb.cell 0
              have mb0 := HT.out.mb.cell 0
              have ak0 := HAK.out.cell 0
              obtain ⟨z0, z1, z2, z3, z4, z5, z6, z7, z8, z9⟩ := ten_cells HPB.out
              go_wp2_with (go_at_call 15; refine HZZ.out.mono ?_; rintro r w15 ⟨rfl, hb15⟩)
              go_ret
              exact ⟨rfl, HT.out.below.trans (hb15.mono HT.out.below.size)⟩
            · have HMT := Lib.hid (mapThrough HT.out HGO.out HSO.out HQN.out HON.out (by omega) HQE.out (by omega) (by omega) (show stop < 0 ∨ (k : Int) ≤ stop by omega))
              have HDW2 := Lib.hid (fun W Al cl (hl : Lies W W.heap.size o A P) (hs : Strs W W.heap.size Al OL) (hcl : k ≤ cl) => show Calls Try.prog 16 #[.agg (objC o A c P d), .slice Al k cl] W fun e w' => (∃ A' c' P' d', e = .returned (.agg (objC (withF o OL) A' c' P' d')) ∧ Lies w' w'.heap.size (withF o OL) A' P') ∧ Below W.heap.size W w' from by
                have h9 := HDW.out W Al cl hl hs (by rw [HON.out]; exact hcl)
                rw [HON.out] at h9
                exact h9)
              have hq1 : (withF o OL).ents.length ≤ 1000000 := by have := HWL.out.1; omega
              have hq2 : (withF o OL).parents.length ≤ 1000000 := by have := HWL.out.2; omega
              have HQS := Lib.hid (fun W A' c' P' d' A'' c'' P'' d'' h1 h2 => HSM.out W (withF o OL) A' c' P' d' A'' c'' P'' d'' h1 h2 hq1 hq2)
              clear HDW HWL hq1 hq2
              generalize withF o OL = q at *
              go_upto_region 17 with (go_at_call 13; refine HMT.out.mono ?_; rintro r w13 ⟨A', c', P', d', rfl, hlq, hb13, ha13⟩; have HT := Lib.hid (HT.out.step hb13); have HGO := Lib.hid (HGO.out.step hb13); have HSO := Lib.hid (strs_mono (HSO.out.below hb13) hb13.size); have HAK := Lib.hid ha13; have HLQ := Lib.hid hlq; clear hlq hb13 ha13 c0 c1 c2 c3 c4 c5 c6 c7 c8 c9)
              have hba : Below w13.heap.size w13 (w13.alloc (.cells (objC q A' c' P' d') 25 (0, 0))) := (Below.refl _ w13).alloc (Nat.le_refl _) _
              have HPB := Lib.hid (box_new w13 25 (objC q A' c' P' d'))
              replace HT := Lib.hid (HT.out.step hba)
              replace HGO := Lib.hid (HGO.out.step hba)
              replace HSO := Lib.hid (strs_mono (HSO.out.below hba) hba.size)
              replace HAK := Lib.hid (HAK.out.step hba)
              replace HLQ := Lib.hid (HLQ.out.step hba)
              clear hba
              generalize w13.alloc (.cells (objC q A' c' P' d') 25 (0, 0)) = W14 at *
              generalize w13.heap.size = gp at *
              have st0 := HT.out.sb.cell 0
              have mb0 := HT.out.mb.cell 0
              rcases (by omega : stop < 0 ∨ (0 ≤ stop ∧ (k : Int) ≤ stop)) with hneg | ⟨hpos, hge⟩
              all_goals
                first
                  | (have s1 : ¬ (0 : Int) ≤ stop := by omega
                     clear hneg)
                  | (have s1 : (0 : Int) ≤ stop := by omega
                     have s2 : ¬ stop < (k : Int) := by omega
                     clear hpos hge)
                clear hin
                go_wp2_with fail
                have HT := Lib.hid (HT.out.step (Below.refl _ W14).drew)
                have HGO := Lib.hid (HGO.out.step (Below.refl _ W14).drew)
                have HSO := Lib.hid (show Strs W14.drew W14.drew.heap.size Ao OL from strs_mono (HSO.out.below (Below.refl _ W14).drew) (Nat.le_refl _))
                have HAK := Lib.hid (HAK.out.step (Below.refl _ W14).drew)
                have HLQ := Lib.hid (HLQ.out.step (Below.refl _ W14).drew)
                have HPB := Lib.hid (HPB.out.step (Below.refl _ W14).drew)
                clear st0 mb0
                refine wp_region_seq (fun W => BoxAt W V.heap.size 3 #[.int .i64 k] ∧ BoxAt W gm 30 #[.slice Am k cm] ∧ BoxAt W gp 25 (objC q A' c' P' d') ∧ BoxAt W w.heap.size 25 (objC o A c P d) ∧ BoxAt W W8.heap.size 23 #[.slice Ao k co]) [(0, false, 0), (1, false, 1), (2, false, 3), (3, false, 7), (4, false, 15), (5, false, 31), (6, false, 63), (7, false, 127), (8, false, 255), (9, false, 511), (10, false, 1023), (11, false, 2047), (12, true, 4095), (13, true, 8191), (14, false, 16383), (15, false, 32767)]
                  16 (by kernel_rfl) (by kernel_rfl) (by kernel_rfl) (fun d _ _ _ _ h => by cases d <;> exact h) (by kernel_rfl) (by kernel_rfl) ⟨HAK.out, HT.out.mb, HPB.out, HT.out.ob, HGO.out⟩ ?_
                generalize W14.drew = W15 at *
                refine seqH_take (.int .i64 0) rfl (Or.inl ⟨by rfl, fun W hW => by clear hW; go_simp⟩) ?_
                go_simp
                refine seqH_take (.bool true) rfl (Or.inl ⟨by rfl, fun W hW => by clear hW; go_simp⟩) ?_
                go_simp
                refine seqH_take (.bool true) rfl (Or.inl ⟨by rfl, fun W hW => by clear hW; go_simp⟩) ?_
                go_simp
                refine seqH_take (.int .i64 k) rfl (Or.inl ⟨by rfl, fun W hW => by have hx := hW.1.cell 0; clear hW; go_simp⟩) ?_
                go_simp
                refine seqH_take (.slice Am k cm) rfl (Or.inl ⟨by rfl, fun W hW => by have hx := hW.2.1.cell 0; clear hW; go_simp⟩) ?_
                go_simp
                refine seqH_take (.int .i64 k) rfl (Or.inl ⟨by rfl, fun W hW => by clear hW; go_simp⟩) ?_
                go_simp
                refine seqH_take (.bool true) rfl (Or.inl ⟨by rfl, fun W hW => by clear hW; go_simp⟩) ?_
                go_simp
                refine seqH_take (.bool true) rfl (Or.inl ⟨by rfl, fun W hW => by clear hW; go_simp⟩) ?_
                go_simp
                refine seqH_take (.bool true) rfl (Or.inl ⟨by rfl, fun W hW => by clear hW; go_simp⟩) ?_
                go_simp
                refine seqH_take (.agg (objC q A' c' P' d')) rfl (yields_load 25 (.tmp 12) rfl (by rfl) gp rfl 25 _ (0, 0) _ (fun W hW => hW.2.2.1) Try.underlying25 rfl ob_size) ?_
                go_simp
                refine seqH_take (.agg (objC o A c P d)) rfl (yields_load 25 (.tmp 3) rfl (by rfl) w.heap.size rfl 25 _ (0, 0) _ (fun W hW => hW.2.2.2.1) Try.underlying25 rfl ob_size) ?_
                go_simp
                refine seqH_take (.slice Ao k co) rfl (Or.inl ⟨by rfl, fun W hW => by have hx := hW.2.2.2.2.cell 0; clear hW; go_simp⟩) ?_
                go_simp
                refine seqH_call rfl (by rfl) (fun K hK => ?_)
                have HK := Lib.hid hK
                clear hK
                go_simp
                refine (HDW2.out _ _ _ HT.out.all HSO.out HCAP.out).mono ?_
                rintro r w16 ⟨⟨A'', c'', P'', d'', rfl, hlw⟩, hb16⟩
                have HLW := Lib.hid hlw
                replace HT := Lib.hid (HT.out.step hb16)
                replace HGO := Lib.hid (HGO.out.step hb16)
                replace HAK := Lib.hid (HAK.out.step hb16)
                replace HLQ := Lib.hid (HLQ.out.step hb16)
                replace HPB := Lib.hid (HPB.out.step hb16)
                clear hlw hb16
                refine HK.out _ _ ⟨HAK.out, HT.out.mb, HPB.out, HT.out.ob, HGO.out⟩ ?_
                clear HK K
                go_simp
                refine seqH_call rfl (by rfl) (fun K hK => ?_)
                have HK := Lib.hid hK
                clear hK
                go_simp
                refine (HQS.out _ _ _ _ _ _ _ _ _ HLQ.out HLW.out).mono ?_
                rintro r w17 ⟨rfl, hb17⟩
                replace HT := Lib.hid (HT.out.step hb17)
                replace HGO := Lib.hid (HGO.out.step hb17)
                replace HAK := Lib.hid (HAK.out.step hb17)
                replace HPB := Lib.hid (HPB.out.step hb17)
                clear hb17
                refine HK.out _ _ ⟨HAK.out, HT.out.mb, HPB.out, HT.out.ob, HGO.out⟩ ?_
                clear HK K
                go_simp
                refine seqH_take (.bool true) rfl (Or.inl ⟨by rfl, fun W hW => by clear hW; go_simp⟩) ?_
                go_simp
                refine seqH_take (.bool true) rfl (Or.inl ⟨by rfl, fun W hW => by clear hW; go_simp⟩) ?_
                go_simp
                refine seqH_done ?_
                go_wp2
                go_ret
                exact ⟨rfl, HT.out.below⟩
end Go.Proofs.Ytlpidedijknohaa.Hq
