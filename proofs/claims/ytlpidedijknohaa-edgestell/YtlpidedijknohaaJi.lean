/-
  Layer 12: the document's Rise: texts, each once, rising.
-/
import Derived.Test.YtlpidedijknohaaJb
import Derived.Test.YtlpidedijknohaaFork
import Derived.Test.YtlpidedijknohaaSt
import Derived.StillTailTactics
namespace Go.Proofs.Ytlpidedijknohaa.Hq
open Go.RowKit Ob Hr Hj Eg Hw
set_option linter.unusedVariables false

theorem own_sl {w : World} {base : Nat} {e : TypeId} {size n : Nat} {v : Value} {xs : List Value} (h : w.ownsRow base e size v n xs) : ∃ A c, v = .slice A n c := by
  rcases h.2 with ⟨rfl, rfl⟩ | ⟨g, cap, cur, rfl, _⟩
  · exact ⟨_, _, rfl⟩
  · exact ⟨_, _, rfl⟩
theorem rec_grown {W W' : World} {B bx : Nat} {x : ByteArray} {row : Option Nat} (h : Recs 1 stV W B (some ⟨bx, 0, none⟩) [x]) (hg : W.grownBy W' row) (hne : row ≠ some bx) : Recs 1 stV W' B (some ⟨bx, 0, none⟩) [x] := fun i hi => by
  obtain ⟨ad, e, hlt, hc⟩ := h i hi
  injection e with e
  subst e
  refine ⟨_, rfl, hlt, fun j hj => ?_⟩
  have h9 := hc j hj
  have hbl : bx < W.heap.size := by
    have h8 := hc 0 (by omega)
    have h7 : (stV ([x].getD i default))[0]? = some (.string ([x].getD i default)) := rfl
    rw [h7] at h8
    have := World.block_lt_of_cell? _ _ h8
    rwa [block_of_add, block_of_add] at this
  rw [← h9]
  exact World.cell?_of_block (by rw [block_of_add, block_of_add]; exact hg.block bx hbl (fun e => hne e.symm))
theorem plain_strs {W : World} {base n c : Nat} {A : Option Addr} {l : List ByteArray} (ho : W.ownsRow base 9 1 (.slice A n c) n (l.flatMap stV)) : Strs W W.heap.size A l := by
  obtain ⟨A', c', e, hn, hr⟩ := recs_own stV_len (by omega) ho
  injection e with e1 e2 e3
  subst e1
  exact strs_of_recs hr
theorem str_slices {W : World} {base n c k : Nat} {A : Option Addr} {l : List ByteArray} (ho : W.ownsRow base 9 1 (.slice A n c) n (l.flatMap stV)) (hk : k ≤ n) : ∃ At ct Ad cd, (∀ V : World, (Instr.slice 23 (.slice A n c) none (some (.int .i64 (k : Int))) none).run Try.prog V = .ok (.slice At k ct) V) ∧ (∀ V : World, (Instr.slice 23 (.slice A n c) (some (.int .i64 (k : Int))) none none).run Try.prog V = .ok (.slice Ad (n - k) cd) V) ∧ Recs 1 stV W W.heap.size At (l.take k) ∧ Recs 1 stV W W.heap.size Ad (l.drop k) := by
  obtain ⟨i0, E⟩ := st_elem
  obtain ⟨A', c', e, hn, hr⟩ := recs_own stV_len (by omega) ho
  injection e with e1 e2 e3
  subst e1
  have hu : Try.prog.underlying 23 = some (.slice (Try.prog.elem 23)) := by rw [E.und]; simp [Program.elem, E.und]
  have he : Try.prog.elem 23 = 9 := by simp [Program.elem, E.und]
  have hsz : ∀ V : World, (sizeOf 9).run Try.prog V = .ok 1 V := fun V => by simp [sizeOf, typeInfo, E.info, E.size]
  have hlc : n ≤ c := by
    rcases ho.2 with ⟨e, h0⟩ | ⟨g, cap, cur, e, _, _, h2, _⟩
    · omega
    · injection e with _ _ e3; omega
  refine ⟨A, c, (if c = k then A else A.map (·.add (k * 1))), c - k, fun V => ?_, fun V => ?_, hr.take k, ?_⟩
  · rw [run_slice_h V _ _ _ _ hu .i64 (k : Int) (by omega) (by omega), he, hsz]
    simp [Result.andThen, sliced, Addr.add]
  · rw [run_slice_l V _ _ _ _ hu .i64 (k : Int) (by omega) (by omega), he, hsz]
    simp [Result.andThen, sliced]
  · by_cases hck : c = k
    · have h0 : l.drop k = [] := List.drop_eq_nil_of_le (by omega)
      rw [h0]; exact recs_nil _ _ _
    · rw [if_neg hck]
      cases A with
      | none =>
        have h0 : l = [] := by
          cases l with
          | nil => rfl
          | cons y r => obtain ⟨ad, e, _⟩ := hr 0 (by simp); cases e
        subst h0
        simpa using recs_nil _ _ _
      | some ad => exact hr.drop k
theorem rise_next {w W : World} {base i n k : Nat} {L O : List ByteArray} {x : ByteArray} {A : Option Addr} {c : Nat} (hrs : riseF (L.take (i + 1)) = insF x O) (hins : insF x O = O.take k ++ [x] ++ O.drop k)
    (ho : W.ownsRow base 9 1 (.slice A (O.take k ++ [x] ++ O.drop k).length c) (O.take k ++ [x] ++ O.drop k).length ((O.take k ++ [x] ++ O.drop k).flatMap stV)) (hlen : (O.take k ++ [x] ++ O.drop k).length = k + 1 + (n - k)) (hb : Below w.heap.size w W) (hB : w.heap.size ≤ base) :
    k + 1 + (n - k) = (riseF (L.take (i + 1))).length ∧ Below w.heap.size w W ∧ W.ownsRow w.heap.size 9 1 (.slice A (k + 1 + (n - k)) c) (k + 1 + (n - k)) ((riseF (L.take (i + 1))).flatMap stV) := by
  rw [hrs, hins]
  rw [hlen] at ho
  exact ⟨hlen.symm, hb, own_down ho hB⟩

set_option maxHeartbeats 16000000 in
set_option maxRecDepth 100000 in
theorem dRise_any (w : World) (B : Nat) (A : Option Addr) (c : Nat) (L : List ByteArray) (h : Strs w B A L) (hB : B ≤ w.heap.size) (hl : L.length ≤ 20000) :
    Calls Try.prog 27 #[.slice A L.length c] w fun e w' => (∃ A2 c2, e = .returned (.slice A2 (riseF L).length c2) ∧ Strs w' w'.heap.size A2 (riseF L)) ∧ Below w.heap.size w w' := by
  obtain ⟨i0, E⟩ := st_elem
  have HE := Lib.hid E
  have HI := Lib.hid h
  clear h E
  go_enter Try.func27, Try.ntmps27
  go_wp2_with fail
  go_loopg [3, 4] L.length (fun g v iv wr => ∃ (i : Nat) (A3 : Option Addr) (c3 n : Nat), i ≤ L.length ∧ g = L.length - i ∧ iv = .int .i64 i ∧ v = .slice A3 n c3 ∧ n = (riseF (L.take i)).length ∧ Below w.heap.size w wr ∧ wr.ownsRow w.heap.size 9 1 (.slice A3 n c3) n ((riseF (L.take i)).flatMap stV))
  case atStart => exact ⟨0, none, 0, 0, Nat.zero_le _, rfl, rfl, rfl, rfl, Below.refl _ _, World.ownsRow_nil _ _ _ _⟩
  case round =>
    obtain ⟨i, A3, c3, n, hil, rfl, rfl, rfl, hn, hbw, hown⟩ := hrel
    obtain ⟨wo, hwo⟩ : ∃ W, W = wr := ⟨wr, rfl⟩
    subst hwo
    have HBW := Lib.hid hbw
    by_cases hlt : i < L.length
    · have h1 : (i : Int) < L.length := by omega
      have h0 : (0 : Int) ≤ i := by omega
      obtain ⟨ad, e, hB1, m0⟩ := (HI.out.below (hbw.mono hB)) i hlt
      have hrs := rise_take_succ hlt
      have hnl : n ≤ i := by have := rise_len (L.take i); rw [List.length_take] at this; omega
      generalize L.getD i ByteArray.empty = x at *
      generalize riseF (L.take i) = O at *
      have HRS := Lib.hid hrs
      have HNN := Lib.hid hn
      have HOO := Lib.hid (And.intro hown (plain_strs hown))
      subst e
      clear hbw hown hn hrs
      go_wp2_with fail
      go_loopg [5] n (fun g kk wr2 => ∃ k : Nat, k ≤ n ∧ g = n - k ∧ kk = .int .i64 k ∧ Below wo.heap.size wo wr2 ∧ ∀ j, j < k → bl (O.getD j ByteArray.empty) < bl x)
      case atStart => exact ⟨0, Nat.zero_le _, rfl, rfl, Below.refl _ _, fun j hj => by omega⟩
      case round =>
        obtain ⟨k, hkl, rfl, rfl, hbl, hno⟩ := hrel
        have hk0 : (0 : Int) ≤ k := by omega
        have m0 : wr.cell? (ad.add i) = some (.string x) := ((hbl.mono (Nat.le_trans hB HBW.out.size)).cell (show (ad.add i).block < B by rw [block_of_add]; exact hB1)).trans m0
        have HOW := Lib.hid (show wr.drew.drew.drew.ownsRow w.heap.size 9 1 (.slice A3 n c3) n (O.flatMap stV) from own_step HOO.out.1 hbl.drew.drew.drew)
        by_cases hkn : k < n
        · have hk1 : (k : Int) < n := by omega
          obtain ⟨ad3, e3, hB3, e0⟩ := (HOO.out.2.below hbl) k (by have := HNN.out; omega)
          by_cases hls : bl (O.getD k ByteArray.empty) < bl x
          · have HX := Lib.hid (show ∀ j, j < k + 1 → bl (O.getD j ByteArray.empty) < bl x from fun j hj => by
              by_cases e : j = k
              · rw [e]; exact hls
              · exact hno j (by omega))
            have hq : Op.bytesLess (O.getD k ByteArray.empty).toList x.toList = true := by rw [bytesLess_eq, toList_bl, toList_bl]; exact decide_eq_true hls
            have hw1 : IntKind.i64.wrap ((k : Int) + 1) = (k : Int) + 1 := IntWalk.i64_in _ (by omega)
            have HBL := Lib.hid hbl
            generalize O.getD k ByteArray.empty = y at *
            subst e3
            clear hno hls hbl
            go_wp2_with fail
            refine wp_region_still_lit (by kernel_rfl) (by kernel_rfl) ?_
            change wpStill _ _ (World.drew _) (fun a' => Exit.then _ _ _ a' (World.drew _)) _ _
            iterate 15 ((with_reducible refine wpStill_step ?_); intro K hK; go_simp; refine hK _ ?_; clear hK K)
            refine wpStill_nil ?_
            go_wp2
            go_roundg (n - (k + 1))
            case rel => exact ⟨k + 1, by omega, rfl, by go_num, HBL.out.drew, HX.out⟩
            case measure => omega
          · have hq : Op.bytesLess (O.getD k ByteArray.empty).toList x.toList = false := by rw [bytesLess_eq, toList_bl, toList_bl]; exact decide_eq_false hls
            have hat := ins_at x O k (by have := HNN.out; omega) hno (fun _ => hls)
            by_cases hxe : O.getD k ByteArray.empty = x
            · have hq2 := str_beq hxe
              rw [if_pos ⟨by have := HNN.out; omega, hxe⟩] at hat
              have HF := Lib.hid (show n = (riseF (L.take (i + 1))).length ∧ Below w.heap.size w wr.drew.drew ∧ wr.drew.drew.ownsRow w.heap.size 9 1 (.slice A3 n c3) n ((riseF (L.take (i + 1))).flatMap stV) from ⟨by rw [HRS.out, hat]; exact HNN.out, HBW.out.trans ((hbl.mono HBW.out.size).drew.drew), by rw [HRS.out, hat]; exact HOW.out⟩)
              have hw1 : IntKind.i64.wrap ((i : Int) + 1) = (i : Int) + 1 := IntWalk.i64_in _ (by omega)
              generalize O.getD k ByteArray.empty = y at *
              subst e3
              clear hno hls hat hxe hbl
              go_wp2_with fail
              refine wp_region_still_lit (by kernel_rfl) (by kernel_rfl) ?_
              change wpStill _ _ (World.drew _) (fun a' => Exit.then _ _ _ a' (World.drew _)) _ _
              iterate 15 ((with_reducible refine wpStill_step ?_); intro K hK; go_simp; refine hK _ ?_; clear hK K)
              refine wpStill_nil ?_
              go_wp2_with fail
              refine wp_region_still_lit (by kernel_rfl) (by kernel_rfl) ?_
              change wpStill _ _ (World.drew _) (fun a' => Exit.then _ _ _ a' (World.drew _)) _ _
              iterate 15 ((with_reducible refine wpStill_step ?_); intro K hK; go_simp; refine hK _ ?_; clear hK K)
              refine wpStill_nil ?_
              go_wp2
              go_roundg (L.length - (i + 1))
              case rel => exact ⟨i + 1, _, c3, n, by omega, rfl, by go_num, rfl, HF.out.1, HF.out.2.1, HF.out.2.2⟩
              case measure => omega
            · have hq2 := str_bne hxe
              rw [if_neg (fun h => hxe h.2)] at hat
              have hins : insF x O = O.take k ++ [x] ++ O.drop k := by rw [hat]; simp
              have hrs := HRS.out
              have HQQ := Lib.hid (show O.length = n from HNN.out.symm)
              have hw1 : IntKind.i64.wrap ((i : Int) + 1) = (i : Int) + 1 := IntWalk.i64_in _ (by omega)
              generalize O.getD k ByteArray.empty = y at *
              subst e3
              clear hls hat hxe
              go_wp2_with fail
              refine wp_region_still_lit (by kernel_rfl) (by kernel_rfl) ?_
              change wpStill _ _ (World.drew _) (fun a' => Exit.then _ _ _ a' (World.drew _)) _ _
              iterate 15 ((with_reducible refine wpStill_step ?_); intro K hK; go_simp; refine hK _ ?_; clear hK K)
              refine wpStill_nil ?_
              go_wp2_with fail
              refine wp_region_still_lit (by kernel_rfl) (by kernel_rfl) ?_
              change wpStill _ _ (World.drew _) (fun a' => Exit.then _ _ _ a' (World.drew _)) _ _
              iterate 15 ((with_reducible refine wpStill_step ?_); intro K hK; go_simp; refine hK _ ?_; clear hK K)
              refine wpStill_nil ?_
              obtain ⟨At, ct, Ad, cd, hs1, hs2, ht, hd⟩ := str_slices HOW.out hkl
              have hT : (O.take k).length = k := by rw [List.length_take]; have := HQQ.out; omega
              have hD : (O.drop k).length = n - k := by rw [List.length_drop, HQQ.out]
              have HNX := Lib.hid (fun A c (W : World) (ho : W.ownsRow wr.drew.drew.drew.heap.size 9 1 (.slice A (O.take k ++ [x] ++ O.drop k).length c) (O.take k ++ [x] ++ O.drop k).length ((O.take k ++ [x] ++ O.drop k).flatMap stV)) (hlen : (O.take k ++ [x] ++ O.drop k).length = k + 1 + (n - k)) (hb : Below w.heap.size w W) => rise_next hrs hins ho hlen hb (show w.heap.size ≤ wr.drew.drew.drew.heap.size from Nat.le_trans HBW.out.size hbl.size))
              have HB0 := Lib.hid (show Below w.heap.size w wr.drew.drew.drew from HBW.out.trans (hbl.drew.drew.drew.mono HBW.out.size))
              have HMC := Lib.hid (show ∀ W, Below wr.drew.drew.drew.heap.size wr.drew.drew.drew W → W.cell? (ad.add i) = some (.string x) from fun W hb => ((hb.mono (Nat.le_trans hB HB0.out.size)).cell (show (ad.add i).block < B by rw [block_of_add]; exact hB1)).trans m0)
              generalize O.take k = T at *
              generalize O.drop k = D at *
              clear hins hbl hno hrs
              go_wp2_with fail
              refine wp_region_tree (fun W => W.cell? (ad.add i) = some (.string x)) (.take 1 0 (.take 2 2 (.take 3 6 (.take 5 14 (.take 6 46 (.take 7 110 (.take 8 238 (.take 11 494 (.take 12 2542 (.take 13 6638 (.fork 0 9 14830 (.fork 4 9 14831 (.call 9 14847 (.call 10 15359 (.call 14 16383 (.take 15 32767 .done)))) (.call 4 15343 (.call 10 15359 (.call 14 16383 (.take 15 32767 .done))))) (.call 0 15342 (.call 4 15343 (.call 10 15359 (.call 14 16383 (.take 15 32767 .done)))))))))))))))) 16 (by kernel_rfl) (by kernel_rfl) (by kernel_rfl) (fun d _ _ _ _ h => by cases d <;> exact h) (by kernel_rfl) (HMC.out _ (Below.refl _ _)) ?_
              have HT := Lib.hid (And.intro (fun (W : World) (hb : Below wr.drew.drew.drew.heap.size wr.drew.drew.drew W) => ((show Recs 1 stV wr.drew.drew.drew wr.drew.drew.drew.heap.size At T from ht).below hb).mono hb.size) hT)
              have HD := Lib.hid (And.intro (fun (W : World) (hb : Below wr.drew.drew.drew.heap.size wr.drew.drew.drew W) => ((show Recs 1 stV wr.drew.drew.drew wr.drew.drew.drew.heap.size Ad D from hd).below hb).mono hb.size) hD)
              have HS := HMC
              have hr0 : Below wr.drew.drew.drew.heap.size wr.drew.drew.drew wr.drew.drew.drew := Below.refl _ _
              try clear e0
              clear ht hd m0 HOW
              generalize wr.drew.drew.drew = W0 at *
              refine trH_take (.slice (some ad3) n c3) rfl (Or.inl ⟨by rfl, fun W hW => by clear hW; go_simp⟩) ?_
              go_simp
              refine trH_take (.int .i64 k) rfl (Or.inl ⟨by rfl, fun W hW => by clear hW; go_simp⟩) ?_
              go_simp
              refine trH_take (.slice At k ct) rfl (Or.inl ⟨by rfl, fun W hW => by clear hW; go_simp⟩) ?_
              go_simp
              refine trH_take (.slice (some ad) L.length c) rfl (Or.inl ⟨by rfl, fun W hW => by clear hW; go_simp⟩) ?_
              go_simp
              refine trH_take (.int .i64 i) rfl (Or.inl ⟨by rfl, fun W hW => by clear hW; go_simp⟩) ?_
              go_simp
              refine trH_take (.pointer (some (ad.add i))) rfl (Or.inl ⟨by rfl, fun W hW => by clear hW; go_simp⟩) ?_
              go_simp
              refine trH_take (.string x) rfl (Or.inl ⟨by rfl, fun W hW => by have hx := hW; clear hW; go_simp⟩) ?_
              go_simp
              refine trH_take (.slice (some ad3) n c3) rfl (Or.inl ⟨by rfl, fun W hW => by clear hW; go_simp⟩) ?_
              go_simp
              refine trH_take (.int .i64 k) rfl (Or.inl ⟨by rfl, fun W hW => by clear hW; go_simp⟩) ?_
              go_simp
              refine trH_take (.slice Ad (n - k) cd) rfl (Or.inl ⟨by rfl, fun W hW => by clear hW; go_simp⟩) ?_
              go_simp
              refine trH_fork rfl (by rfl) rfl (by rfl) (fun K hK => ?_) (fun K hK => ?_)
              · have HK := Lib.hid hK
                clear hK
                go_simp
                have hb2 : Below W0.heap.size W0 (W0.alloc (.cells #[] 9)) := hr0.alloc hr0.size _
                have ho3 : (W0.alloc (.cells #[] 9)).ownsRow W0.heap.size 9 1 (.slice (some ⟨W0.heap.size, 0, none⟩) 0 0) ([] : List ByteArray).length (([] : List ByteArray).flatMap stV) := ⟨rfl, .inr ⟨W0.heap.size, 0, #[], rfl, hr0.size, heap_alloc_new W0 _, Nat.le_refl _, Nat.zero_le _, rfl, rfl⟩⟩
                refine HK.out _ _ (HS.out _ hb2) ?_
                clear HK K
                have hYZ := Lib.hid (show (W0.alloc (.cells #[] 9)).heap.size = W0.heap.size + 1 from by simp)
                generalize W0.alloc (.cells #[] 9) = y1 at *
                go_simp
                refine trH_fork rfl (by rfl) rfl (by rfl) (fun K hK => ?_) (fun K hK => ?_)
                · have HK := Lib.hid hK
                  clear hK
                  obtain ⟨v6, y5, hr10, ho7, hg8, _⟩ := app_recs HE.out stV_len stV_one y1 W0.heap.size (.slice (some ⟨W0.heap.size, 0, none⟩) 0 0) [] T At ct _ 23 ho3 (HT.out.1 _ hb2) (by simp) (by omega) hb2.size
                  have hb9 : Below W0.heap.size W0 y5 := hb2.grown hg8 hb2.size (fun i hi => (ho3.lt i hi).1)
                  obtain ⟨A11, c12, rfl⟩ := own_sl ho7
                  have HHR := Lib.hid hr10
                  simp only [List.nil_append, HT.out.2] at HHR
                  clear hr10
                  simp only [List.nil_append] at ho7
                  unfold Oper.wp
                  simp [execOp, resolve, invoke, builtin, Act.eval, HHR.out, Result.andThen, Oper.upon]
                  refine HK.out _ _ (HS.out _ hb9) ?_
                  clear HK K HHR hg8
                  go_simp
                  refine trH_call rfl (by rfl) (fun K hK => ?_)
                  have HK := Lib.hid hK
                  clear hK
                  go_simp
                  have hb15 : Below W0.heap.size W0 (y5.alloc (.cells #[.string x] 9)) := hb9.alloc hb9.size _
                  have hq : Recs 1 stV (y5.alloc (.cells #[.string x] 9)) (y5.heap.size + 1) (some ⟨y5.heap.size, 0, none⟩) [x] := one_rec stV_len y5 x
                  have ho7 := ho7.alloc (.cells #[.string x] 9)
                  refine HK.out _ _ (HS.out _ hb15) ?_
                  clear HK K
                  have hYZ2 := Lib.hid (show (y5.alloc (.cells #[.string x] 9)).heap.size = y5.heap.size + 1 from by simp)
                  generalize y5.alloc (.cells #[.string x] 9) = y14 at *
                  go_simp
                  refine trH_call rfl (by rfl) (fun K hK => ?_)
                  have HK := Lib.hid hK
                  clear hK
                  obtain ⟨v20, y19, hr24, ho21, hg22, _⟩ := app_recs HE.out stV_len stV_one y14 W0.heap.size (.slice A11 T.length c12) T [x] (some ⟨y5.heap.size, 0, none⟩) 1 _ 23 ho7 hq (by omega) (by simp) hb15.size
                  have hb23 : Below W0.heap.size W0 y19 := hb15.grown hg22 hb15.size (fun i hi => (ho7.lt i hi).1)
                  obtain ⟨A25, c26, rfl⟩ := own_sl ho21
                  have HHR := Lib.hid hr24
                  simp only [List.length_append, List.length_cons, List.length_nil, Nat.zero_add, HT.out.2] at HHR
                  clear hr24
                  unfold Oper.wp
                  simp [execOp, resolve, invoke, builtin, Act.eval, HHR.out, Result.andThen, Oper.upon]
                  refine HK.out _ _ (HS.out _ hb23) ?_
                  clear HK K HHR
                  go_simp
                  refine trH_call rfl (by rfl) (fun K hK => ?_)
                  have HK := Lib.hid hK
                  clear hK
                  obtain ⟨v28, y27, hr32, ho29, hg30, _⟩ := app_recs HE.out stV_len stV_one y19 W0.heap.size (.slice A25 (T ++ [x]).length c26) (T ++ [x]) D Ad cd _ 23 ho21 (HD.out.1 _ hb23) (by rw [List.length_append, HT.out.2]; simp; omega) (by omega) hb23.size
                  have hb31 : Below W0.heap.size W0 y27 := hb23.grown hg30 hb23.size (fun i hi => (ho21.lt i hi).1)
                  obtain ⟨A33, c34, rfl⟩ := own_sl ho29
                  have HHR := Lib.hid hr32
                  simp only [List.length_append, List.length_cons, List.length_nil, Nat.zero_add, HT.out.2, HD.out.2] at HHR
                  clear hr32
                  unfold Oper.wp
                  simp [execOp, resolve, invoke, builtin, Act.eval, HHR.out, Result.andThen, Oper.upon]
                  refine HK.out _ _ (HS.out _ hb31) ?_
                  clear HK K HHR
                  go_simp
                  refine trH_take (.slice A33 (k + 1 + (n - k)) c34) rfl (Or.inl ⟨by rfl, fun W hW => by go_simp⟩) ?_
                  go_simp
                  refine trH_done ?_
                  have hlen : (T ++ [x] ++ D).length = k + 1 + (n - k) := by simp only [List.length_append, List.length_cons, List.length_nil, HT.out.2, HD.out.2]
                  have HF := Lib.hid (HNX.out _ _ _ ho29 hlen (HB0.out.trans (hb31.mono HB0.out.size)))
                  clear ho29 hb31 hlen
                  go_wp2
                  go_roundg (L.length - (i + 1))
                  case rel => exact ⟨i + 1, A33, c34, k + 1 + (n - k), by omega, rfl, by go_num, rfl, HF.out.1, HF.out.2.1, HF.out.2.2⟩
                  case measure => omega
                · have HK := Lib.hid hK
                  clear hK
                  go_simp
                  have hb9 : Below W0.heap.size W0 (y1.alloc (.cells #[.string x] 9)) := hb2.alloc hb2.size _
                  have hq : Recs 1 stV (y1.alloc (.cells #[.string x] 9)) (y1.heap.size + 1) (some ⟨y1.heap.size, 0, none⟩) [x] := one_rec stV_len y1 x
                  have ho3 := ho3.alloc (.cells #[.string x] 9)
                  refine HK.out _ _ (HS.out _ hb9) ?_
                  clear HK K
                  have hYZ2 := Lib.hid (show (y1.alloc (.cells #[.string x] 9)).heap.size = y1.heap.size + 1 from by simp)
                  generalize y1.alloc (.cells #[.string x] 9) = y2 at *
                  go_simp
                  refine trH_call rfl (by rfl) (fun K hK => ?_)
                  have HK := Lib.hid hK
                  clear hK
                  obtain ⟨v6, y5, hr10, ho7, hg8, _⟩ := app_recs HE.out stV_len stV_one y2 W0.heap.size (.slice (some ⟨W0.heap.size, 0, none⟩) 0 0) [] T At ct _ 23 ho3 (HT.out.1 _ hb9) (by simp) (by omega) hb9.size
                  have hb15 : Below W0.heap.size W0 y5 := hb9.grown hg8 hb9.size (fun i hi => (ho3.lt i hi).1)
                  have hq := rec_grown hq hg8 (by simp only [Value.ownBlock]; intro e; injection e with e; have := hYZ.out; omega)
                  obtain ⟨A11, c12, rfl⟩ := own_sl ho7
                  have HHR := Lib.hid hr10
                  simp only [List.nil_append, HT.out.2] at HHR
                  clear hr10
                  simp only [List.nil_append] at ho7
                  unfold Oper.wp
                  simp [execOp, resolve, invoke, builtin, Act.eval, HHR.out, Result.andThen, Oper.upon]
                  refine HK.out _ _ (HS.out _ hb15) ?_
                  clear HK K HHR hg8
                  go_simp
                  refine trH_call rfl (by rfl) (fun K hK => ?_)
                  have HK := Lib.hid hK
                  clear hK
                  obtain ⟨v20, y19, hr24, ho21, hg22, _⟩ := app_recs HE.out stV_len stV_one y5 W0.heap.size (.slice A11 T.length c12) T [x] (some ⟨y1.heap.size, 0, none⟩) 1 _ 23 ho7 hq (by omega) (by simp) hb15.size
                  have hb23 : Below W0.heap.size W0 y19 := hb15.grown hg22 hb15.size (fun i hi => (ho7.lt i hi).1)
                  obtain ⟨A25, c26, rfl⟩ := own_sl ho21
                  have HHR := Lib.hid hr24
                  simp only [List.length_append, List.length_cons, List.length_nil, Nat.zero_add, HT.out.2] at HHR
                  clear hr24
                  unfold Oper.wp
                  simp [execOp, resolve, invoke, builtin, Act.eval, HHR.out, Result.andThen, Oper.upon]
                  refine HK.out _ _ (HS.out _ hb23) ?_
                  clear HK K HHR
                  go_simp
                  refine trH_call rfl (by rfl) (fun K hK => ?_)
                  have HK := Lib.hid hK
                  clear hK
                  obtain ⟨v28, y27, hr32, ho29, hg30, _⟩ := app_recs HE.out stV_len stV_one y19 W0.heap.size (.slice A25 (T ++ [x]).length c26) (T ++ [x]) D Ad cd _ 23 ho21 (HD.out.1 _ hb23) (by rw [List.length_append, HT.out.2]; simp; omega) (by omega) hb23.size
                  have hb31 : Below W0.heap.size W0 y27 := hb23.grown hg30 hb23.size (fun i hi => (ho21.lt i hi).1)
                  obtain ⟨A33, c34, rfl⟩ := own_sl ho29
                  have HHR := Lib.hid hr32
                  simp only [List.length_append, List.length_cons, List.length_nil, Nat.zero_add, HT.out.2, HD.out.2] at HHR
                  clear hr32
                  unfold Oper.wp
                  simp [execOp, resolve, invoke, builtin, Act.eval, HHR.out, Result.andThen, Oper.upon]
                  refine HK.out _ _ (HS.out _ hb31) ?_
                  clear HK K HHR
                  go_simp
                  refine trH_take (.slice A33 (k + 1 + (n - k)) c34) rfl (Or.inl ⟨by rfl, fun W hW => by go_simp⟩) ?_
                  go_simp
                  refine trH_done ?_
                  have hlen : (T ++ [x] ++ D).length = k + 1 + (n - k) := by simp only [List.length_append, List.length_cons, List.length_nil, HT.out.2, HD.out.2]
                  have HF := Lib.hid (HNX.out _ _ _ ho29 hlen (HB0.out.trans (hb31.mono HB0.out.size)))
                  clear ho29 hb31 hlen
                  go_wp2
                  go_roundg (L.length - (i + 1))
                  case rel => exact ⟨i + 1, A33, c34, k + 1 + (n - k), by omega, rfl, by go_num, rfl, HF.out.1, HF.out.2.1, HF.out.2.2⟩
                  case measure => omega
              · have HK := Lib.hid hK
                clear hK
                go_simp
                have hb2 : Below W0.heap.size W0 (W0.alloc (.cells #[.string x] 9)) := hr0.alloc hr0.size _
                have hq : Recs 1 stV (W0.alloc (.cells #[.string x] 9)) (W0.heap.size + 1) (some ⟨W0.heap.size, 0, none⟩) [x] := one_rec stV_len W0 x
                refine HK.out _ _ (HS.out _ hb2) ?_
                clear HK K
                have hYZ2 := Lib.hid (show (W0.alloc (.cells #[.string x] 9)).heap.size = W0.heap.size + 1 from by simp)
                generalize W0.alloc (.cells #[.string x] 9) = y1 at *
                go_simp
                refine trH_call rfl (by rfl) (fun K hK => ?_)
                have HK := Lib.hid hK
                clear hK
                go_simp
                have hb9 : Below W0.heap.size W0 (y1.alloc (.cells #[] 9)) := hb2.alloc hb2.size _
                have ho3 : (y1.alloc (.cells #[] 9)).ownsRow W0.heap.size 9 1 (.slice (some ⟨y1.heap.size, 0, none⟩) 0 0) ([] : List ByteArray).length (([] : List ByteArray).flatMap stV) := ⟨rfl, .inr ⟨y1.heap.size, 0, #[], rfl, hb2.size, heap_alloc_new y1 _, Nat.le_refl _, Nat.zero_le _, rfl, rfl⟩⟩
                have hq := hq.below (w' := y1.alloc (.cells #[] 9)) ((Below.refl _ _).alloc (by have := hYZ2.out; omega) _)
                refine HK.out _ _ (HS.out _ hb9) ?_
                clear HK K
                have hYZ := Lib.hid (show (y1.alloc (.cells #[] 9)).heap.size = y1.heap.size + 1 from by simp)
                generalize y1.alloc (.cells #[] 9) = y2 at *
                go_simp
                refine trH_call rfl (by rfl) (fun K hK => ?_)
                have HK := Lib.hid hK
                clear hK
                obtain ⟨v6, y5, hr10, ho7, hg8, _⟩ := app_recs HE.out stV_len stV_one y2 W0.heap.size (.slice (some ⟨y1.heap.size, 0, none⟩) 0 0) [] T At ct _ 23 ho3 (HT.out.1 _ hb9) (by simp) (by omega) hb9.size
                have hb15 : Below W0.heap.size W0 y5 := hb9.grown hg8 hb9.size (fun i hi => (ho3.lt i hi).1)
                have hq := rec_grown hq hg8 (by simp only [Value.ownBlock]; intro e; injection e with e; have := hYZ2.out; omega)
                obtain ⟨A11, c12, rfl⟩ := own_sl ho7
                have HHR := Lib.hid hr10
                simp only [List.nil_append, HT.out.2] at HHR
                clear hr10
                simp only [List.nil_append] at ho7
                unfold Oper.wp
                simp [execOp, resolve, invoke, builtin, Act.eval, HHR.out, Result.andThen, Oper.upon]
                refine HK.out _ _ (HS.out _ hb15) ?_
                clear HK K HHR hg8
                go_simp
                refine trH_call rfl (by rfl) (fun K hK => ?_)
                have HK := Lib.hid hK
                clear hK
                obtain ⟨v20, y19, hr24, ho21, hg22, _⟩ := app_recs HE.out stV_len stV_one y5 W0.heap.size (.slice A11 T.length c12) T [x] (some ⟨W0.heap.size, 0, none⟩) 1 _ 23 ho7 hq (by omega) (by simp) hb15.size
                have hb23 : Below W0.heap.size W0 y19 := hb15.grown hg22 hb15.size (fun i hi => (ho7.lt i hi).1)
                obtain ⟨A25, c26, rfl⟩ := own_sl ho21
                have HHR := Lib.hid hr24
                simp only [List.length_append, List.length_cons, List.length_nil, Nat.zero_add, HT.out.2] at HHR
                clear hr24
                unfold Oper.wp
                simp [execOp, resolve, invoke, builtin, Act.eval, HHR.out, Result.andThen, Oper.upon]
                refine HK.out _ _ (HS.out _ hb23) ?_
                clear HK K HHR
                go_simp
                refine trH_call rfl (by rfl) (fun K hK => ?_)
                have HK := Lib.hid hK
                clear hK
                obtain ⟨v28, y27, hr32, ho29, hg30, _⟩ := app_recs HE.out stV_len stV_one y19 W0.heap.size (.slice A25 (T ++ [x]).length c26) (T ++ [x]) D Ad cd _ 23 ho21 (HD.out.1 _ hb23) (by rw [List.length_append, HT.out.2]; simp; omega) (by omega) hb23.size
                have hb31 : Below W0.heap.size W0 y27 := hb23.grown hg30 hb23.size (fun i hi => (ho21.lt i hi).1)
                obtain ⟨A33, c34, rfl⟩ := own_sl ho29
                have HHR := Lib.hid hr32
                simp only [List.length_append, List.length_cons, List.length_nil, Nat.zero_add, HT.out.2, HD.out.2] at HHR
                clear hr32
                unfold Oper.wp
                simp [execOp, resolve, invoke, builtin, Act.eval, HHR.out, Result.andThen, Oper.upon]
                refine HK.out _ _ (HS.out _ hb31) ?_
                clear HK K HHR
                go_simp
                refine trH_take (.slice A33 (k + 1 + (n - k)) c34) rfl (Or.inl ⟨by rfl, fun W hW => by go_simp⟩) ?_
                go_simp
                refine trH_done ?_
                have hlen : (T ++ [x] ++ D).length = k + 1 + (n - k) := by simp only [List.length_append, List.length_cons, List.length_nil, HT.out.2, HD.out.2]
                have HF := Lib.hid (HNX.out _ _ _ ho29 hlen (HB0.out.trans (hb31.mono HB0.out.size)))
                clear ho29 hb31 hlen
                go_wp2
                go_roundg (L.length - (i + 1))
                case rel => exact ⟨i + 1, A33, c34, k + 1 + (n - k), by omega, rfl, by go_num, rfl, HF.out.1, HF.out.2.1, HF.out.2.2⟩
                case measure => omega
        · have hk1 : ¬ (k : Int) < n := by omega
          have hkn2 : k = n := by omega
          have hat := ins_at x O k (by have := HNN.out; omega) hno (fun h => absurd h (by have := HNN.out; omega))
          rw [if_neg (fun h => absurd h.1 (by have := HNN.out; omega))] at hat
          have hins : insF x O = O.take k ++ [x] ++ O.drop k := by rw [hat]; simp
          have hrs := HRS.out
          have HQQ := Lib.hid (show O.length = n from HNN.out.symm)
          have hw1 : IntKind.i64.wrap ((i : Int) + 1) = (i : Int) + 1 := IntWalk.i64_in _ (by omega)
          clear hat hkn2
          go_wp2_with fail
          refine wp_region_still_lit (by kernel_rfl) (by kernel_rfl) ?_
          change wpStill _ _ (World.drew _) (fun a' => Exit.then _ _ _ a' (World.drew _)) _ _
          iterate 5 ((with_reducible refine wpStill_step ?_); intro K hK; go_simp; refine hK _ ?_; clear hK K)
          iterate 9 ((with_reducible refine wpStill_skip ?_ ?_); rfl; go_simp)
          ((with_reducible refine wpStill_step ?_); intro K hK; go_simp; refine hK _ ?_; clear hK K)
          refine wpStill_nil ?_
          go_wp2_with fail
          refine wp_region_still_lit (by kernel_rfl) (by kernel_rfl) ?_
          change wpStill _ _ (World.drew _) (fun a' => Exit.then _ _ _ a' (World.drew _)) _ _
          iterate 5 ((with_reducible refine wpStill_step ?_); intro K hK; go_simp; refine hK _ ?_; clear hK K)
          iterate 9 ((with_reducible refine wpStill_skip ?_ ?_); rfl; go_simp)
          ((with_reducible refine wpStill_step ?_); intro K hK; go_simp; refine hK _ ?_; clear hK K)
          refine wpStill_nil ?_
          obtain ⟨At, ct, Ad, cd, hs1, hs2, ht, hd⟩ := str_slices HOW.out hkl
          have hT : (O.take k).length = k := by rw [List.length_take]; have := HQQ.out; omega
          have hD : (O.drop k).length = n - k := by rw [List.length_drop, HQQ.out]
          have HNX := Lib.hid (fun A c (W : World) (ho : W.ownsRow wr.drew.drew.drew.heap.size 9 1 (.slice A (O.take k ++ [x] ++ O.drop k).length c) (O.take k ++ [x] ++ O.drop k).length ((O.take k ++ [x] ++ O.drop k).flatMap stV)) (hlen : (O.take k ++ [x] ++ O.drop k).length = k + 1 + (n - k)) (hb : Below w.heap.size w W) => rise_next hrs hins ho hlen hb (show w.heap.size ≤ wr.drew.drew.drew.heap.size from Nat.le_trans HBW.out.size hbl.size))
          have HB0 := Lib.hid (show Below w.heap.size w wr.drew.drew.drew from HBW.out.trans (hbl.drew.drew.drew.mono HBW.out.size))
          have HMC := Lib.hid (show ∀ W, Below wr.drew.drew.drew.heap.size wr.drew.drew.drew W → W.cell? (ad.add i) = some (.string x) from fun W hb => ((hb.mono (Nat.le_trans hB HB0.out.size)).cell (show (ad.add i).block < B by rw [block_of_add]; exact hB1)).trans m0)
          generalize O.take k = T at *
          generalize O.drop k = D at *
          clear hins hbl hno hrs
          go_wp2_with fail
          refine wp_region_tree (fun W => W.cell? (ad.add i) = some (.string x)) (.take 1 0 (.take 2 2 (.take 3 6 (.take 5 14 (.take 6 46 (.take 7 110 (.take 8 238 (.take 11 494 (.take 12 2542 (.take 13 6638 (.fork 0 9 14830 (.fork 4 9 14831 (.call 9 14847 (.call 10 15359 (.call 14 16383 (.take 15 32767 .done)))) (.call 4 15343 (.call 10 15359 (.call 14 16383 (.take 15 32767 .done))))) (.call 0 15342 (.call 4 15343 (.call 10 15359 (.call 14 16383 (.take 15 32767 .done)))))))))))))))) 16 (by kernel_rfl) (by kernel_rfl) (by kernel_rfl) (fun d _ _ _ _ h => by cases d <;> exact h) (by kernel_rfl) (HMC.out _ (Below.refl _ _)) ?_
          have HT := Lib.hid (And.intro (fun (W : World) (hb : Below wr.drew.drew.drew.heap.size wr.drew.drew.drew W) => ((show Recs 1 stV wr.drew.drew.drew wr.drew.drew.drew.heap.size At T from ht).below hb).mono hb.size) hT)
          have HD := Lib.hid (And.intro (fun (W : World) (hb : Below wr.drew.drew.drew.heap.size wr.drew.drew.drew W) => ((show Recs 1 stV wr.drew.drew.drew wr.drew.drew.drew.heap.size Ad D from hd).below hb).mono hb.size) hD)
          have HS := HMC
          have hr0 : Below wr.drew.drew.drew.heap.size wr.drew.drew.drew wr.drew.drew.drew := Below.refl _ _
          try clear e0
          clear ht hd m0 HOW
          generalize wr.drew.drew.drew = W0 at *
          refine trH_take (.slice A3 n c3) rfl (Or.inl ⟨by rfl, fun W hW => by clear hW; go_simp⟩) ?_
          go_simp
          refine trH_take (.int .i64 k) rfl (Or.inl ⟨by rfl, fun W hW => by clear hW; go_simp⟩) ?_
          go_simp
          refine trH_take (.slice At k ct) rfl (Or.inl ⟨by rfl, fun W hW => by clear hW; go_simp⟩) ?_
          go_simp
          refine trH_take (.slice (some ad) L.length c) rfl (Or.inl ⟨by rfl, fun W hW => by clear hW; go_simp⟩) ?_
          go_simp
          refine trH_take (.int .i64 i) rfl (Or.inl ⟨by rfl, fun W hW => by clear hW; go_simp⟩) ?_
          go_simp
          refine trH_take (.pointer (some (ad.add i))) rfl (Or.inl ⟨by rfl, fun W hW => by clear hW; go_simp⟩) ?_
          go_simp
          refine trH_take (.string x) rfl (Or.inl ⟨by rfl, fun W hW => by have hx := hW; clear hW; go_simp⟩) ?_
          go_simp
          refine trH_take (.slice A3 n c3) rfl (Or.inl ⟨by rfl, fun W hW => by clear hW; go_simp⟩) ?_
          go_simp
          refine trH_take (.int .i64 k) rfl (Or.inl ⟨by rfl, fun W hW => by clear hW; go_simp⟩) ?_
          go_simp
          refine trH_take (.slice Ad (n - k) cd) rfl (Or.inl ⟨by rfl, fun W hW => by clear hW; go_simp⟩) ?_
          go_simp
          refine trH_fork rfl (by rfl) rfl (by rfl) (fun K hK => ?_) (fun K hK => ?_)
          · have HK := Lib.hid hK
            clear hK
            go_simp
            have hb2 : Below W0.heap.size W0 (W0.alloc (.cells #[] 9)) := hr0.alloc hr0.size _
            have ho3 : (W0.alloc (.cells #[] 9)).ownsRow W0.heap.size 9 1 (.slice (some ⟨W0.heap.size, 0, none⟩) 0 0) ([] : List ByteArray).length (([] : List ByteArray).flatMap stV) := ⟨rfl, .inr ⟨W0.heap.size, 0, #[], rfl, hr0.size, heap_alloc_new W0 _, Nat.le_refl _, Nat.zero_le _, rfl, rfl⟩⟩
            refine HK.out _ _ (HS.out _ hb2) ?_
            clear HK K
            have hYZ := Lib.hid (show (W0.alloc (.cells #[] 9)).heap.size = W0.heap.size + 1 from by simp)
            generalize W0.alloc (.cells #[] 9) = y1 at *
            go_simp
            refine trH_fork rfl (by rfl) rfl (by rfl) (fun K hK => ?_) (fun K hK => ?_)
            · have HK := Lib.hid hK
              clear hK
              obtain ⟨v6, y5, hr10, ho7, hg8, _⟩ := app_recs HE.out stV_len stV_one y1 W0.heap.size (.slice (some ⟨W0.heap.size, 0, none⟩) 0 0) [] T At ct _ 23 ho3 (HT.out.1 _ hb2) (by simp) (by omega) hb2.size
              have hb9 : Below W0.heap.size W0 y5 := hb2.grown hg8 hb2.size (fun i hi => (ho3.lt i hi).1)
              obtain ⟨A11, c12, rfl⟩ := own_sl ho7
              have HHR := Lib.hid hr10
              simp only [List.nil_append, HT.out.2] at HHR
              clear hr10
              simp only [List.nil_append] at ho7
              unfold Oper.wp
              simp [execOp, resolve, invoke, builtin, Act.eval, HHR.out, Result.andThen, Oper.upon]
              refine HK.out _ _ (HS.out _ hb9) ?_
              clear HK K HHR hg8
              go_simp
              refine trH_call rfl (by rfl) (fun K hK => ?_)
              have HK := Lib.hid hK
              clear hK
              go_simp
              have hb15 : Below W0.heap.size W0 (y5.alloc (.cells #[.string x] 9)) := hb9.alloc hb9.size _
              have hq : Recs 1 stV (y5.alloc (.cells #[.string x] 9)) (y5.heap.size + 1) (some ⟨y5.heap.size, 0, none⟩) [x] := one_rec stV_len y5 x
              have ho7 := ho7.alloc (.cells #[.string x] 9)
              refine HK.out _ _ (HS.out _ hb15) ?_
              clear HK K
              have hYZ2 := Lib.hid (show (y5.alloc (.cells #[.string x] 9)).heap.size = y5.heap.size + 1 from by simp)
              generalize y5.alloc (.cells #[.string x] 9) = y14 at *
              go_simp
              refine trH_call rfl (by rfl) (fun K hK => ?_)
              have HK := Lib.hid hK
              clear hK
              obtain ⟨v20, y19, hr24, ho21, hg22, _⟩ := app_recs HE.out stV_len stV_one y14 W0.heap.size (.slice A11 T.length c12) T [x] (some ⟨y5.heap.size, 0, none⟩) 1 _ 23 ho7 hq (by omega) (by simp) hb15.size
              have hb23 : Below W0.heap.size W0 y19 := hb15.grown hg22 hb15.size (fun i hi => (ho7.lt i hi).1)
              obtain ⟨A25, c26, rfl⟩ := own_sl ho21
              have HHR := Lib.hid hr24
              simp only [List.length_append, List.length_cons, List.length_nil, Nat.zero_add, HT.out.2] at HHR
              clear hr24
              unfold Oper.wp
              simp [execOp, resolve, invoke, builtin, Act.eval, HHR.out, Result.andThen, Oper.upon]
              refine HK.out _ _ (HS.out _ hb23) ?_
              clear HK K HHR
              go_simp
              refine trH_call rfl (by rfl) (fun K hK => ?_)
              have HK := Lib.hid hK
              clear hK
              obtain ⟨v28, y27, hr32, ho29, hg30, _⟩ := app_recs HE.out stV_len stV_one y19 W0.heap.size (.slice A25 (T ++ [x]).length c26) (T ++ [x]) D Ad cd _ 23 ho21 (HD.out.1 _ hb23) (by rw [List.length_append, HT.out.2]; simp; omega) (by omega) hb23.size
              have hb31 : Below W0.heap.size W0 y27 := hb23.grown hg30 hb23.size (fun i hi => (ho21.lt i hi).1)
              obtain ⟨A33, c34, rfl⟩ := own_sl ho29
              have HHR := Lib.hid hr32
              simp only [List.length_append, List.length_cons, List.length_nil, Nat.zero_add, HT.out.2, HD.out.2] at HHR
              clear hr32
              unfold Oper.wp
              simp [execOp, resolve, invoke, builtin, Act.eval, HHR.out, Result.andThen, Oper.upon]
              refine HK.out _ _ (HS.out _ hb31) ?_
              clear HK K HHR
              go_simp
              refine trH_take (.slice A33 (k + 1 + (n - k)) c34) rfl (Or.inl ⟨by rfl, fun W hW => by go_simp⟩) ?_
              go_simp
              refine trH_done ?_
              have hlen : (T ++ [x] ++ D).length = k + 1 + (n - k) := by simp only [List.length_append, List.length_cons, List.length_nil, HT.out.2, HD.out.2]
              have HF := Lib.hid (HNX.out _ _ _ ho29 hlen (HB0.out.trans (hb31.mono HB0.out.size)))
              clear ho29 hb31 hlen
              go_wp2
              go_roundg (L.length - (i + 1))
              case rel => exact ⟨i + 1, A33, c34, k + 1 + (n - k), by omega, rfl, by go_num, rfl, HF.out.1, HF.out.2.1, HF.out.2.2⟩
              case measure => omega
            · have HK := Lib.hid hK
              clear hK
              go_simp
              have hb9 : Below W0.heap.size W0 (y1.alloc (.cells #[.string x] 9)) := hb2.alloc hb2.size _
              have hq : Recs 1 stV (y1.alloc (.cells #[.string x] 9)) (y1.heap.size + 1) (some ⟨y1.heap.size, 0, none⟩) [x] := one_rec stV_len y1 x
              have ho3 := ho3.alloc (.cells #[.string x] 9)
              refine HK.out _ _ (HS.out _ hb9) ?_
              clear HK K
              have hYZ2 := Lib.hid (show (y1.alloc (.cells #[.string x] 9)).heap.size = y1.heap.size + 1 from by simp)
              generalize y1.alloc (.cells #[.string x] 9) = y2 at *
              go_simp
              refine trH_call rfl (by rfl) (fun K hK => ?_)
              have HK := Lib.hid hK
              clear hK
              obtain ⟨v6, y5, hr10, ho7, hg8, _⟩ := app_recs HE.out stV_len stV_one y2 W0.heap.size (.slice (some ⟨W0.heap.size, 0, none⟩) 0 0) [] T At ct _ 23 ho3 (HT.out.1 _ hb9) (by simp) (by omega) hb9.size
              have hb15 : Below W0.heap.size W0 y5 := hb9.grown hg8 hb9.size (fun i hi => (ho3.lt i hi).1)
              have hq := rec_grown hq hg8 (by simp only [Value.ownBlock]; intro e; injection e with e; have := hYZ.out; omega)
              obtain ⟨A11, c12, rfl⟩ := own_sl ho7
              have HHR := Lib.hid hr10
              simp only [List.nil_append, HT.out.2] at HHR
              clear hr10
              simp only [List.nil_append] at ho7
              unfold Oper.wp
              simp [execOp, resolve, invoke, builtin, Act.eval, HHR.out, Result.andThen, Oper.upon]
              refine HK.out _ _ (HS.out _ hb15) ?_
              clear HK K HHR hg8
              go_simp
              refine trH_call rfl (by rfl) (fun K hK => ?_)
              have HK := Lib.hid hK
              clear hK
              obtain ⟨v20, y19, hr24, ho21, hg22, _⟩ := app_recs HE.out stV_len stV_one y5 W0.heap.size (.slice A11 T.length c12) T [x] (some ⟨y1.heap.size, 0, none⟩) 1 _ 23 ho7 hq (by omega) (by simp) hb15.size
              have hb23 : Below W0.heap.size W0 y19 := hb15.grown hg22 hb15.size (fun i hi => (ho7.lt i hi).1)
              obtain ⟨A25, c26, rfl⟩ := own_sl ho21
              have HHR := Lib.hid hr24
              simp only [List.length_append, List.length_cons, List.length_nil, Nat.zero_add, HT.out.2] at HHR
              clear hr24
              unfold Oper.wp
              simp [execOp, resolve, invoke, builtin, Act.eval, HHR.out, Result.andThen, Oper.upon]
              refine HK.out _ _ (HS.out _ hb23) ?_
              clear HK K HHR
              go_simp
              refine trH_call rfl (by rfl) (fun K hK => ?_)
              have HK := Lib.hid hK
              clear hK
              obtain ⟨v28, y27, hr32, ho29, hg30, _⟩ := app_recs HE.out stV_len stV_one y19 W0.heap.size (.slice A25 (T ++ [x]).length c26) (T ++ [x]) D Ad cd _ 23 ho21 (HD.out.1 _ hb23) (by rw [List.length_append, HT.out.2]; simp; omega) (by omega) hb23.size
              have hb31 : Below W0.heap.size W0 y27 := hb23.grown hg30 hb23.size (fun i hi => (ho21.lt i hi).1)
              obtain ⟨A33, c34, rfl⟩ := own_sl ho29
              have HHR := Lib.hid hr32
              simp only [List.length_append, List.length_cons, List.length_nil, Nat.zero_add, HT.out.2, HD.out.2] at HHR
              clear hr32
              unfold Oper.wp
              simp [execOp, resolve, invoke, builtin, Act.eval, HHR.out, Result.andThen, Oper.upon]
              refine HK.out _ _ (HS.out _ hb31) ?_
              clear HK K HHR
              go_simp
              refine trH_take (.slice A33 (k + 1 + (n - k)) c34) rfl (Or.inl ⟨by rfl, fun W hW => by go_simp⟩) ?_
              go_simp
              refine trH_done ?_
              have hlen : (T ++ [x] ++ D).length = k + 1 + (n - k) := by simp only [List.length_append, List.length_cons, List.length_nil, HT.out.2, HD.out.2]
              have HF := Lib.hid (HNX.out _ _ _ ho29 hlen (HB0.out.trans (hb31.mono HB0.out.size)))
              clear ho29 hb31 hlen
              go_wp2
              go_roundg (L.length - (i + 1))
              case rel => exact ⟨i + 1, A33, c34, k + 1 + (n - k), by omega, rfl, by go_num, rfl, HF.out.1, HF.out.2.1, HF.out.2.2⟩
              case measure => omega
          · have HK := Lib.hid hK
            clear hK
            go_simp
            have hb2 : Below W0.heap.size W0 (W0.alloc (.cells #[.string x] 9)) := hr0.alloc hr0.size _
            have hq : Recs 1 stV (W0.alloc (.cells #[.string x] 9)) (W0.heap.size + 1) (some ⟨W0.heap.size, 0, none⟩) [x] := one_rec stV_len W0 x
            refine HK.out _ _ (HS.out _ hb2) ?_
            clear HK K
            have hYZ2 := Lib.hid (show (W0.alloc (.cells #[.string x] 9)).heap.size = W0.heap.size + 1 from by simp)
            generalize W0.alloc (.cells #[.string x] 9) = y1 at *
            go_simp
            refine trH_call rfl (by rfl) (fun K hK => ?_)
            have HK := Lib.hid hK
            clear hK
            go_simp
            have hb9 : Below W0.heap.size W0 (y1.alloc (.cells #[] 9)) := hb2.alloc hb2.size _
            have ho3 : (y1.alloc (.cells #[] 9)).ownsRow W0.heap.size 9 1 (.slice (some ⟨y1.heap.size, 0, none⟩) 0 0) ([] : List ByteArray).length (([] : List ByteArray).flatMap stV) := ⟨rfl, .inr ⟨y1.heap.size, 0, #[], rfl, hb2.size, heap_alloc_new y1 _, Nat.le_refl _, Nat.zero_le _, rfl, rfl⟩⟩
            have hq := hq.below (w' := y1.alloc (.cells #[] 9)) ((Below.refl _ _).alloc (by have := hYZ2.out; omega) _)
            refine HK.out _ _ (HS.out _ hb9) ?_
            clear HK K
            have hYZ := Lib.hid (show (y1.alloc (.cells #[] 9)).heap.size = y1.heap.size + 1 from by simp)
            generalize y1.alloc (.cells #[] 9) = y2 at *
            go_simp
            refine trH_call rfl (by rfl) (fun K hK => ?_)
            have HK := Lib.hid hK
            clear hK
            obtain ⟨v6, y5, hr10, ho7, hg8, _⟩ := app_recs HE.out stV_len stV_one y2 W0.heap.size (.slice (some ⟨y1.heap.size, 0, none⟩) 0 0) [] T At ct _ 23 ho3 (HT.out.1 _ hb9) (by simp) (by omega) hb9.size
            have hb15 : Below W0.heap.size W0 y5 := hb9.grown hg8 hb9.size (fun i hi => (ho3.lt i hi).1)
            have hq := rec_grown hq hg8 (by simp only [Value.ownBlock]; intro e; injection e with e; have := hYZ2.out; omega)
            obtain ⟨A11, c12, rfl⟩ := own_sl ho7
            have HHR := Lib.hid hr10
            simp only [List.nil_append, HT.out.2] at HHR
            clear hr10
            simp only [List.nil_append] at ho7
            unfold Oper.wp
            simp [execOp, resolve, invoke, builtin, Act.eval, HHR.out, Result.andThen, Oper.upon]
            refine HK.out _ _ (HS.out _ hb15) ?_
            clear HK K HHR hg8
            go_simp
            refine trH_call rfl (by rfl) (fun K hK => ?_)
            have HK := Lib.hid hK
            clear hK
            obtain ⟨v20, y19, hr24, ho21, hg22, _⟩ := app_recs HE.out stV_len stV_one y5 W0.heap.size (.slice A11 T.length c12) T [x] (some ⟨W0.heap.size, 0, none⟩) 1 _ 23 ho7 hq (by omega) (by simp) hb15.size
            have hb23 : Below W0.heap.size W0 y19 := hb15.grown hg22 hb15.size (fun i hi => (ho7.lt i hi).1)
            obtain ⟨A25, c26, rfl⟩ := own_sl ho21
            have HHR := Lib.hid hr24
            simp only [List.length_append, List.length_cons, List.length_nil, Nat.zero_add, HT.out.2] at HHR
            clear hr24
            unfold Oper.wp
            simp [execOp, resolve, invoke, builtin, Act.eval, HHR.out, Result.andThen, Oper.upon]
            refine HK.out _ _ (HS.out _ hb23) ?_
            clear HK K HHR
            go_simp
            refine trH_call rfl (by rfl) (fun K hK => ?_)
            have HK := Lib.hid hK
            clear hK
            obtain ⟨v28, y27, hr32, ho29, hg30, _⟩ := app_recs HE.out stV_len stV_one y19 W0.heap.size (.slice A25 (T ++ [x]).length c26) (T ++ [x]) D Ad cd _ 23 ho21 (HD.out.1 _ hb23) (by rw [List.length_append, HT.out.2]; simp; omega) (by omega) hb23.size
            have hb31 : Below W0.heap.size W0 y27 := hb23.grown hg30 hb23.size (fun i hi => (ho21.lt i hi).1)
            obtain ⟨A33, c34, rfl⟩ := own_sl ho29
            have HHR := Lib.hid hr32
            simp only [List.length_append, List.length_cons, List.length_nil, Nat.zero_add, HT.out.2, HD.out.2] at HHR
            clear hr32
            unfold Oper.wp
            simp [execOp, resolve, invoke, builtin, Act.eval, HHR.out, Result.andThen, Oper.upon]
            refine HK.out _ _ (HS.out _ hb31) ?_
            clear HK K HHR
            go_simp
            refine trH_take (.slice A33 (k + 1 + (n - k)) c34) rfl (Or.inl ⟨by rfl, fun W hW => by go_simp⟩) ?_
            go_simp
            refine trH_done ?_
            have hlen : (T ++ [x] ++ D).length = k + 1 + (n - k) := by simp only [List.length_append, List.length_cons, List.length_nil, HT.out.2, HD.out.2]
            have HF := Lib.hid (HNX.out _ _ _ ho29 hlen (HB0.out.trans (hb31.mono HB0.out.size)))
            clear ho29 hb31 hlen
            go_wp2
            go_roundg (L.length - (i + 1))
            case rel => exact ⟨i + 1, A33, c34, k + 1 + (n - k), by omega, rfl, by go_num, rfl, HF.out.1, HF.out.2.1, HF.out.2.2⟩
            case measure => omega
    · have h1 : ¬ (i : Int) < L.length := by omega
      obtain rfl : i = L.length := by omega
      have HF := Lib.hid (show L.take L.length = L from List.take_length)
      rw [HF.out] at hn hown
      have HO := Lib.hid (And.intro hn (And.intro (plain_strs hown) hbw))
      clear hn hown hbw
      go_wp2
      go_ret
      exact ⟨⟨A3, ⟨c3, by rw [← HO.out.1]; rfl⟩, HO.out.2.1⟩, HO.out.2.2⟩
end Go.Proofs.Ytlpidedijknohaa.Hq
