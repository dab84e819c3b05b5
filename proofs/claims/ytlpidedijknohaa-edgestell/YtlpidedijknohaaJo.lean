/-
  Layer 12: the names that an object names (EdgesNames), the law's walk.
-/
import Derived.Test.YtlpidedijknohaaJn
import Derived.Test.YtlpidedijknohaaHeld
import Derived.Test.YtlpidedijknohaaSt
import Derived.Maps.Ext
import Derived.Maps.OwnSet
import Derived.StringKeys
import Derived.Maps.StringElems
import Derived.Laws.Cover1
namespace Go.Proofs.Ytlpidedijknohaa.Hq
open Go.RowKit Go.ChangeShapes Go.WideShapes Go.ChangeAt Ob Hr Hj Eg Hw
set_option linter.unusedVariables false

/-! ### a map of bools -/
def pk (p : ByteArray) : Lit := .string p.data.toList
theorem pk_ne {a b : ByteArray} (h : a ≠ b) : pk a ≠ pk b := fun e => h (by
  unfold pk at e
  injection e with e
  exact ByteArray.ext (Array.toList_inj.1 e))
theorem pk_lit (p : ByteArray) : WideAt.IsKeyLit (pk p) := trivial
theorem klaw : Maps.Keyed Try.prog 9 := Maps.string_keyed Try.underlying9
theorem pk_key {p : ByteArray} (h : p.size ≤ maxLen) : keyOf Try.prog 9 (.string p) = some (pk p) := WideMaps.keyOf_string_mk Try.underlying9 h
def MapB (W : World) (m n : Nat) (f : ByteArray → Bool) : Prop := ∃ D : DataW Unit, W.ownsMap Try.prog 9 (plainElem Try.prog 4) m n D ∧ ∀ p, D.atKey (pk p) (.lit (.bool false)) = .lit (.bool (f p))
theorem mapB_new (W : World) : MapB (W.alloc (.map #[] 0)) W.heap.size 0 (fun _ => false) := ⟨.map [], World.ownsMap_made W Try.prog 9 _, fun p => rfl⟩
theorem MapB.put {W : World} {m n : Nat} {f : ByteArray → Bool} (h : MapB W m n f) (hn : n ≤ 1000000) (p : ByteArray) (hp : p.size ≤ maxLen) :
    ∃ W', (Instr.mapUpdate 48 (.map (some m)) (.string p) (.bool true)).run Try.prog W = .ok () W' ∧ MapB W' m (n + 1) (fun q => if q = p then true else f q) ∧ W.grownBy W' (some m) := by
  obtain ⟨D, h1, h2⟩ := h
  obtain ⟨W', hrun, ho, hg⟩ := h1.update klaw Try.underlying48 (by unfold maxLen; omega) (pk_key hp) (plainElem_bool Try.underlying4 true)
  refine ⟨W', hrun, ⟨_, ho, fun q => ?_⟩, hg⟩
  show _ = DataW.lit (Lit.bool (if q = p then true else f q))
  by_cases e : q = p
  · subst e; rw [Maps.atKey_put_same h1.isMap (pk_lit q), if_pos rfl]
  · rw [Maps.atKey_put_other (pk_ne e), if_neg e]; exact h2 q
set_option maxRecDepth 100000 in
theorem MapB.look {W : World} {m n : Nat} {f : ByteArray → Bool} (h : MapB W m n f) (p : ByteArray) (hp : p.size ≤ maxLen) : (Instr.lookup 48 (.map (some m)) (.string p) false).run Try.prog W = .ok (.bool (f p)) W := by
  obtain ⟨D, h1, h2⟩ := h
  obtain ⟨v, ps, hrun, hv⟩ := h1.lookup klaw Try.underlying48 (z := .bool false) (by kernel_rfl) (plainElem_bool Try.underlying4 false) (pk_key hp)
  rw [h2 p] at hv
  have e : v = .bool (f p) := by
    unfold plainElem at hv
    rw [Try.underlying4] at hv
    cases v <;> simp at hv
    rw [hv.1]
  rw [e] at hrun
  exact hrun
theorem MapB.drew {W : World} {m n : Nat} {f : ByteArray → Bool} (h : MapB W m n f) : MapB W.drew m n f := by
  obtain ⟨D, ⟨es, clock, hb, r⟩, h2⟩ := h
  exact ⟨D, ⟨es, clock, hb, r⟩, h2⟩
theorem MapB.to {W : World} {m n : Nat} {f g : ByteArray → Bool} (h : MapB W m n f) (hfg : ∀ q, f q = g q) : MapB W m n g := by
  obtain rfl : f = g := funext hfg
  exact h
theorem ed_rec2 {W : World} {B : Nat} {e : TypeId} {A2 : Option Addr} {c2 : Nat} {Q : List Edg} {n : Nat} (h : W.ownsRow B e 2 (.slice A2 n c2) n (Q.flatMap edV)) : Recs 2 edV W W.heap.size A2 Q := by
  obtain ⟨A, c, e, _, hr⟩ := recs_own edV_len (by omega) h
  injection e with e _ _
  rw [e]
  exact hr
def isIn (l : List ByteArray) (q : ByteArray) : Bool := l.any fun x => decide (q = x)
theorem isIn_true {l : List ByteArray} {q : ByteArray} (h : q ∈ l) : isIn l q = true := List.any_eq_true.2 ⟨q, h, by simp⟩
theorem take_mem {N : List ByteArray} {k : Nat} (h : k < N.length) (q : ByteArray) : (if q = N.getD k ByteArray.empty then true else isIn (N.take k) q) = isIn (N.take (k + 1)) q := by
  rw [take_snoc h]
  show (if q = N.getD k default then true else isIn (N.take k) q) = _
  unfold isIn
  rw [List.any_append]
  by_cases e : q = N.getD k default
  · simp [e]
  · rw [if_neg e]
    simp only [List.any_cons, List.any_nil, decide_eq_false e, Bool.or_false]
theorem rises_adj {N : List ByteArray} (h : Rises N) {k : Nat} (hk : k < N.length) (h0 : 0 < k) : bl (N.getD (k - 1) ByteArray.empty) < bl (N.getD k ByteArray.empty) := by
  have := List.pairwise_iff_getElem.1 h (k - 1) k (by omega) hk (by omega)
  simpa [List.getD, List.getElem?_eq_getElem hk, List.getElem?_eq_getElem (show k - 1 < N.length by omega)] using this
theorem names_le (o : Thing) : (namesF o).length ≤ (edgesF o).length := by
  have := rise_len (idsF o)
  rw [ids_len] at this
  exact this
theorem names_small {o : Thing} (h : Small o) : ∀ x ∈ namesF o, x.size ≤ 100000 := fun x hx => by
  have h1 := (mem_rise (idsF o) x).1 hx
  obtain ⟨i, hi, rfl⟩ := List.getElem_of_mem h1
  have hi2 : i < (edgesF o).length := by rw [← ids_len]; exact hi
  have h2 := ids_small h hi2
  rw [← getD_ids o hi2] at h2
  simpa [List.getD, List.getElem?_eq_getElem hi] using h2

set_option maxHeartbeats 16000000 in
set_option maxRecDepth 100000 in
theorem namesLaw_any (o : Thing) (A : Option Addr) (c : Nat) (P : Option Addr) (d : Nat) (s : ByteArray) (w : World) (hl : Lies w w.heap.size o A P) (hr : Hj.Reach o) :
    Calls Try.prog 5 #[.agg (objC o A c P d), .string s] w fun e w' => e = .returned (.bool true) ∧ Below w.heap.size w w' := by
  have HA := Lib.hid awake12_any
  have HW := Lib.hid (fun W (h : Lies W W.heap.size o A P) => few_any W W.heap.size o A c P d h (Nat.le_refl _) hr)
  have HP := Lib.hid (bk_new (c := c) (d := d) (s := s) hl)
  clear hl hr
  cases hf : few o with
  | false =>
    rw [hf] at HW
    clear hf
    go_enter Try.func5, Try.ntmps5
    go_wp2_with (first | (go_at_call 6; refine (HA.out _).mono ?_; rintro r w5 ⟨rfl, hb5⟩; have HP := Lib.hid (HP.out.step hb5); obtain ⟨c0, c1, c2, c3, c4, c5, c6, c7, c8, c9⟩ := HP.out.ob.ten; clear hb5) | (go_at_call 7; refine (HW.out _ HP.out.all).mono ?_; rintro r w5 ⟨rfl, hb5⟩; have HP := Lib.hid (HP.out.step hb5); have s0 := HP.out.sb.cell 0; clear hb5))
    go_ret
    exact ⟨rfl, HP.out.below⟩
  | true =>
    have hs := few_small hf
    rw [hf] at HW
    clear hf
    by_cases hz : 100 < s.size
    · have i1 : decide ((100 : Int) < s.size) = true := decide_eq_true (by omega)
      clear hs hz
      go_enter Try.func5, Try.ntmps5
      go_wp2_with (first | (go_at_call 6; refine (HA.out _).mono ?_; rintro r w5 ⟨rfl, hb5⟩; have HP := Lib.hid (HP.out.step hb5); obtain ⟨c0, c1, c2, c3, c4, c5, c6, c7, c8, c9⟩ := HP.out.ob.ten; clear hb5) | (go_at_call 7; refine (HW.out _ HP.out.all).mono ?_; rintro r w5 ⟨rfl, hb5⟩; have HP := Lib.hid (HP.out.step hb5); have s0 := HP.out.sb.cell 0; clear hb5))
      go_ret
      exact ⟨rfl, HP.out.below⟩
    · have i1 : decide ((100 : Int) < s.size) = false := decide_eq_false (by omega)
      have hmf : ∀ (fn : Fn) (first cap : Array Value) (w : World), (Instr.makeFunc fn first cap).run Try.prog w = .ok (.func fn first cap) w := fun _ _ _ _ => rfl
      have hn1 := hs.ents
      have hn2 := hs.pars
      have hln := edges_few (o := o) (by omega) (by omega)
      have HM2 := Lib.hid (fun W (h : Lies W W.heap.size o A P) (hb : W.cell? ⟨w.heap.size + 1, 0, none⟩ = some (.string s)) => mapAdd (enters_of Try.func20 (by kernel_rfl) rfl) clAddN W o A c P d (w.heap.size + 1) s hb (by omega) h hs)
      have HOF := Lib.hid (fun W (h : Lies W W.heap.size o A P) => pOf_any W W.heap.size o A c P d h (Nat.le_refl _) (by omega) (by omega))
      have HNM := Lib.hid (fun W (h : Lies W W.heap.size o A P) => pNames_any W W.heap.size o A c P d h (Nat.le_refl _) (by omega) (by omega))
      have hlen : ((idsF o).map (s ++ ·)).length = (edgesF o).length := by rw [List.length_map, ids_len]
      obtain ⟨h3, h4⟩ := with_lens hlen
      have HNQ := Lib.hid (fun W A c P d (h : Lies W W.heap.size (withF o ((idsF o).map (s ++ ·))) A P) => show Calls Try.prog 11 #[.agg (objC (withF o ((idsF o).map (s ++ ·))) A c P d)] W fun e w' => (∃ A2 c2, e = .returned (.slice A2 (namesF o).length c2) ∧ Strs w' w'.heap.size A2 ((namesF o).map (s ++ ·))) ∧ Below W.heap.size W w' from by
        have h9 := pNames_any W W.heap.size _ A c P d h (Nat.le_refl _) (by omega) (by omega)
        have e9 : namesF (withF o ((idsF o).map (s ++ ·))) = (namesF o).map (s ++ ·) := by rw [namesF, ids_with hlen, rise_add]; rfl
        rw [e9, List.length_map] at h9
        exact h9)
      have HRS := Lib.hid (show Rises (namesF o) from rise_rises _)
      have HMEM := Lib.hid (show ∀ i, i < (edgesF o).length → ((edgesF o).getD i default).1 ∈ namesF o from fun i hi => (mem_rise _ _).2 (by
        rw [← getD_ids o hi]
        rw [List.getD_eq_getElem?_getD, List.getElem?_eq_getElem (by rw [ids_len]; exact hi)]
        exact List.getElem_mem _))
      have HSZ := Lib.hid (names_small hs)
      have hnl := names_le o
      generalize withF o ((idsF o).map (s ++ ·)) = q at *
      generalize namesF o = N at *
      generalize edgesF o = Q at *
      clear hlen h3 h4 hs
      obtain ⟨n, hn⟩ : ∃ n, N.length = n := ⟨_, rfl⟩
      obtain ⟨m, hm⟩ : ∃ m, Q.length = m := ⟨_, rfl⟩
      rw [hn] at HNM HNQ hnl
      rw [hm] at HOF HMEM hln hnl
      have HNN := Lib.hid (And.intro hn hm)
      clear hn hm
      go_enter Try.func5, Try.ntmps5
      go_upto_region 5 with (first | (go_at_call 6; refine (HA.out _).mono ?_; rintro r w5 ⟨rfl, hb5⟩; have HP := Lib.hid (HP.out.step hb5); obtain ⟨c0, c1, c2, c3, c4, c5, c6, c7, c8, c9⟩ := HP.out.ob.ten; clear hb5) | (go_at_call 7; refine (HW.out _ HP.out.all).mono ?_; rintro r w6 ⟨rfl, hb5⟩; have HP := Lib.hid (HP.out.step hb5); clear hb5 c0 c1 c2 c3 c4 c5 c6 c7 c8 c9; have s0 := HP.out.sb.cell 0))
      have HP := Lib.hid (HP.out.step (Below.refl _ w6).drew)
      refine wp_region_seq (fun W => BoxAt W w.heap.size 25 (objC o A c P d)) [(0, false, 0), (2, false, 1), (1, true, 5), (3, true, 7), (4, false, 15), (5, false, 31)]
        6 (by kernel_rfl) (by kernel_rfl) (by kernel_rfl) (fun d _ _ _ _ h => by cases d <;> exact h) (by kernel_rfl) (by kernel_rfl) HP.out.ob ?_
      clear s0
      generalize w6.drew = W0 at *
      refine seqH_take (.agg (objC o A c P d)) rfl (yields_load 25 (.tmp 2) rfl (by rfl) w.heap.size rfl 25 _ (0, 0) _ (fun W hW => hW) Try.underlying25 rfl ob_size) ?_
      go_simp
      refine seqH_take (.agg (objC o A c P d)) rfl (yields_load 25 (.tmp 2) rfl (by rfl) w.heap.size rfl 25 _ (0, 0) _ (fun W hW => hW) Try.underlying25 rfl ob_size) ?_
      go_simp
      refine seqH_call rfl (by rfl) (fun K hK => ?_)
      have HK := Lib.hid hK
      clear hK
      go_simp
      refine (HOF.out _ HP.out.all).mono ?_
      rintro r w7 ⟨⟨Ae, ce, rfl, hre⟩, hb7⟩
      have HE := Lib.hid (ed_rec2 hre)
      have HP := Lib.hid (HP.out.step hb7)
      clear hb7 hre
      refine HK.out _ _ HP.out.ob ?_
      clear HK K
      go_simp
      refine seqH_call rfl (by rfl) (fun K hK => ?_)
      have HK := Lib.hid hK
      clear hK
      go_simp
      refine (HNM.out _ HP.out.all).mono ?_
      rintro r w8 ⟨⟨An, cn, rfl, hst⟩, hb8⟩
      have HE := Lib.hid ((HE.out.below hb8).mono hb8.size)
      have HT := Lib.hid hst
      have HP := Lib.hid (HP.out.step hb8)
      clear hb8 hst
      refine HK.out _ _ HP.out.ob ?_
      clear HK K
      go_simp
      refine seqH_take (.slice Ae m ce) rfl (Or.inl ⟨by rfl, fun W hW => by clear hW; go_simp⟩) ?_
      go_simp
      refine seqH_take (.slice An n cn) rfl (Or.inl ⟨by rfl, fun W hW => by clear hW; go_simp⟩) ?_
      go_simp
      refine seqH_done ?_
      have hmm := @run_makeMap Try.prog
      have HMB := Lib.hid (mapB_new w8)
      have HBA := Lib.hid (show Below w8.heap.size w8 (w8.alloc (.map #[] 0)) from (Below.refl _ w8).alloc (Nat.le_refl _) _)
      go_wp2_with fail
      go_loopg [8] n (fun g v wr => ∃ k : Nat, k ≤ n ∧ g = n - k ∧ v = .int .i64 k ∧ MapB wr w8.heap.size k (isIn (N.take k)) ∧ Below w8.heap.size w8 wr)
      case atStart => exact ⟨0, Nat.zero_le _, rfl, rfl, HMB.out.to (fun q => rfl), HBA.out⟩
      case round =>
        obtain ⟨k, hkn, rfl, rfl, hmb, hbl⟩ := hrel
        by_cases hlt : k < n
        · have h1 : (k : Int) < n := by omega
          have h0 : (0 : Int) ≤ k := by omega
          have hw1 : IntKind.i64.wrap ((k : Int) + 1) = (k : Int) + 1 := IntWalk.i64_in _ (by omega)
          have hkN : k < N.length := by have := HNN.out.1; omega
          obtain ⟨ad, e, hB1, k1⟩ := (HT.out.below hbl) k hkN
          have hyz : (N.getD k ByteArray.empty).size ≤ maxLen := Nat.le_trans (HSZ.out _ (by rw [List.getD_eq_getElem?_getD, List.getElem?_eq_getElem hkN]; exact List.getElem_mem _)) (by unfold maxLen; omega)
          obtain ⟨W1, hrun, hmb1, hg1⟩ := hmb.drew.put (by omega) (N.getD k ByteArray.empty) hyz
          have HX := Lib.hid (And.intro (hmb1.to (take_mem hkN)) (hbl.drew.grown hg1 hbl.size (fun i hi => by injection hi with hi; omega)))
          have k1d : wr.drew.cell? (ad.add k) = some (.string (N.getD k ByteArray.empty)) := k1
          by_cases hk0 : k = 0
          · subst hk0
            have k1z : wr.cell? ad = some (.string (N.getD 0 ByteArray.empty)) := k1
            have k1y : wr.drew.cell? ad = some (.string (N.getD 0 ByteArray.empty)) := k1
            generalize N.getD 0 ByteArray.empty = y at *
            subst e
            clear hmb hbl hmb1 hg1
            go_wp2_with fail
            refine wp_region_still_lit (by kernel_rfl) (by kernel_rfl) ?_
            change wpStill _ _ (World.drew _) (fun a' => Exit.then _ _ _ a' (World.drew _)) _ _
            iterate 3 ((with_reducible refine wpStill_step ?_); intro K hK; go_simp; refine hK _ ?_; clear hK K)
            iterate 10 ((with_reducible refine wpStill_skip ?_ ?_); rfl; go_simp)
            ((with_reducible refine wpStill_step ?_); intro K hK; go_simp; refine hK _ ?_; clear hK K)
            refine wpStill_nil ?_
            go_wp2
            go_roundg (n - (0 + 1))
            case rel => exact ⟨0 + 1, by omega, rfl, by go_num, HX.out.1, HX.out.2⟩
            case measure => omega
          · have hadj := rises_adj HRS.out hkN (by omega)
            obtain ⟨ad', e', hB2, k2⟩ := (HT.out.below hbl) (k - 1) (by omega)
            rw [e] at e'
            injection e' with e'
            subst e'
            obtain ⟨k', hk'⟩ : ∃ k', k - 1 = k' := ⟨_, rfl⟩
            rw [hk'] at hadj k2
            have hw2 : IntKind.i64.wrap ((k : Int) - 1) = (k' : Int) := by rw [IntWalk.i64_in _ (by omega)]; omega
            have h02 : (0 : Int) ≤ k' := by omega
            have h12 : (k' : Int) < n := by omega
            have hgt : (0 : Int) < k := by omega
            have hgn : 0 < k := by omega
            have hq1 : Op.bytesLess (N.getD k ByteArray.empty).toList (N.getD k' ByteArray.empty).toList = false := by
              rw [bytesLess_eq, toList_bl, toList_bl]
              exact decide_eq_false fun h => lt_irr _ (List.lt_trans hadj h)
            have hq2 : ((N.getD k ByteArray.empty).toList == (N.getD k' ByteArray.empty).toList) = false := str_bne fun h => lt_irr _ (by rw [h] at hadj; exact hadj)
            generalize N.getD k ByteArray.empty = y at *
            generalize N.getD k' ByteArray.empty = x at *
            subst e
            clear hmb hbl hmb1 hg1 hadj
            go_wp2_with fail
            refine wp_region_still_lit (by kernel_rfl) (by kernel_rfl) ?_
            change wpStill _ _ (World.drew _) (fun a' => Exit.then _ _ _ a' (World.drew _)) _ _
            iterate 14 ((with_reducible refine wpStill_step ?_); intro K hK; go_simp; refine hK _ ?_; clear hK K)
            refine wpStill_nil ?_
            go_wp2
            go_roundg (n - (k + 1))
            case rel => exact ⟨k + 1, by omega, rfl, by go_num, HX.out.1, HX.out.2⟩
            case measure => omega
        · have h1 : ¬ (k : Int) < n := by omega
          obtain rfl : k = n := by omega
          have hmb := hmb.to (g := isIn N) (fun q => by rw [List.take_of_length_le (by have := HNN.out.1; omega)])
          have HMB := Lib.hid hmb
          have HE := Lib.hid (HE.out.below hbl)
          have HT := Lib.hid (HT.out.below hbl)
          have HP := Lib.hid (HP.out.step hbl)
          have HSZ8 := Lib.hid hbl.size
          obtain ⟨wo, hwo⟩ : ∃ W, W = wr := ⟨wr, rfl⟩
          subst hwo
          clear hmb hbl
          go_wp2_with fail
          go_loopg [9] m (fun g v wr => ∃ i : Nat, i ≤ m ∧ g = m - i ∧ v = .int .i64 i ∧ wo = wr)
          case atStart => exact ⟨0, Nat.zero_le _, rfl, rfl, rfl⟩
          case round =>
            obtain ⟨i, him, rfl, rfl, rfl⟩ := hrel
            by_cases hlt : i < m
            · have h1' : (i : Int) < m := by omega
              have h0 : (0 : Int) ≤ i := by omega
              have hw1 : IntKind.i64.wrap ((i : Int) + 1) = (i : Int) + 1 := IntWalk.i64_in _ (by omega)
              obtain ⟨ad2, e, hB1, hc⟩ := HE.out i (by have := HNN.out.2; omega)
              have m0 : wo.cell? (ad2.add (i * 2)) = some (.string (Q.getD i default).1) := by have := hc 0 (by omega); rwa [show (ad2.add (i * 2)).add 0 = ad2.add (i * 2) from rfl] at this
              have hmem := HMEM.out i hlt
              have hlk := HMB.out.look (Q.getD i default).1 (Nat.le_trans (HSZ.out _ hmem) (by unfold maxLen; omega))
              rw [isIn_true hmem] at hlk
              generalize (Q.getD i default).1 = y at *
              subst e
              clear hc hmem
              go_wp2
              go_roundg (m - (i + 1))
              case rel => exact ⟨i + 1, by omega, rfl, by go_num, rfl⟩
              case measure => omega
            · have h1' : ¬ (i : Int) < m := by omega
              have s0 := HP.out.sb.cell 0
              obtain ⟨c0, c1, c2, c3, c4, c5, c6, c7, c8, c9⟩ := HP.out.ob.ten
              go_upto_region 19 with (go_at_call 13; refine (HM2.out _ HP.out.all s0).mono ?_; rintro r w9 ⟨Aq, cq, Pq, dq, Mq, Uq, rfl, hpe, hpp, hm1, hm2, hm3, hb9⟩; have HRQ := Lib.hid (And.intro hpe (And.intro hpp (And.intro hm1 (And.intro hm2 hm3)))); have HP := Lib.hid (HP.out.step hb9); replace HT := Lib.hid (strs_mono (HT.out.below (hb9.mono HSZ8.out)) (Nat.le_trans HSZ8.out hb9.size)); clear hpe hpp hm1 hm2 hm3 hb9 c0 c1 c2 c3 c4 c5 c6 c7 c8 c9 s0)
              have hba : Below w9.heap.size w9 (w9.alloc (.cells (objC q Aq cq Pq dq) 25 (0, 0))) := (Below.refl _ w9).alloc (Nat.le_refl _) _
              replace HP := Lib.hid (HP.out.step hba)
              replace HT := Lib.hid (strs_mono (HT.out.below hba) hba.size)
              have HQB := Lib.hid (show RB (w9.alloc (.cells (objC q Aq cq Pq dq) 25 (0, 0))) q w9.heap.size wo.heap.size Uq Aq cq Pq dq from ⟨box_new w9 _ _, Mq, HRQ.out.1.keep fun g _ h4 => hba.block g (by have := HRQ.out.2.2.2; omega), HRQ.out.2.1.keep fun g _ h4 => hba.block g (by have := HRQ.out.2.2.2; omega), HRQ.out.2.2.1, HRQ.out.2.2.2.1, HRQ.out.2.2.2.2⟩)
              clear hba HRQ
              generalize w9.alloc (.cells (objC q Aq cq Pq dq) 25 (0, 0)) = W10 at *
              generalize w9.heap.size = gq at *
              obtain ⟨c0, c1, c2, c3, c4, c5, c6, c7, c8, c9⟩ := HQB.out.rb.ten
              have hgt : decide ((m : Int) < k) = false := decide_eq_false (by omega)
              go_wp2_with (go_at_call 11; refine (HNQ.out _ _ _ _ _ HQB.out.lies).mono ?_; rintro r w11 ⟨⟨Am, cm, rfl, hst⟩, hb11⟩; have HP := Lib.hid (HP.out.step hb11); have HT := Lib.hid (strs_mono (HT.out.below hb11) hb11.size); have HTM := Lib.hid hst; clear hst hb11 c0 c1 c2 c3 c4 c5 c6 c7 c8 c9)
              have hgt2 : decide (m < k) = false := decide_eq_false (by omega)
              rw [hgt2]
              clear hgt hgt2
              go_loopg [13] k (fun g v wr => ∃ i : Nat, i ≤ k ∧ g = k - i ∧ v = .int .i64 i ∧ Below w11.heap.size w11 wr)
              case atStart => exact ⟨0, Nat.zero_le _, rfl, rfl, Below.refl _ _⟩
              case round =>
                obtain ⟨i, hik, rfl, rfl, hbl⟩ := hrel
                by_cases hlt2 : i < k
                · have h1'' : (i : Int) < k := by omega
                  have h0 : (0 : Int) ≤ i := by omega
                  have hw1 : IntKind.i64.wrap ((i : Int) + 1) = (i : Int) + 1 := IntWalk.i64_in _ (by omega)
                  have hiN : i < N.length := by have := HNN.out.1; omega
                  obtain ⟨adn, en, hBn, kn⟩ := (HT.out.below hbl) i hiN
                  obtain ⟨adm, em, hBm, km⟩ := (HTM.out.below hbl) i (by rw [List.length_map]; exact hiN)
                  have hgm : (N.map (s ++ ·)).getD i ByteArray.empty = s ++ N.getD i ByteArray.empty := getD_map (s ++ ·) hiN
                  rw [hgm] at km
                  have hyz : (N.getD i ByteArray.empty).size ≤ 100000 := HSZ.out _ (by rw [List.getD_eq_getElem?_getD, List.getElem?_eq_getElem hiN]; exact List.getElem_mem _)
                  have s0 := (HP.out.step hbl).sb.cell 0
                  generalize N.getD i ByteArray.empty = y at *
                  have hcc : ¬ 9223372036854775807 < s.size + y.size := by omega
                  have hqq : ((s ++ y).toList == (s ++ y).toList) = true := by simp
                  have HBL := Lib.hid hbl
                  subst en em
                  clear hgm hbl
                  go_wp2_with fail
                  refine wp_region_still_lit (by kernel_rfl) (by kernel_rfl) ?_
                  change wpStill _ _ (World.drew _) (fun a' => Exit.then _ _ _ a' (World.drew _)) _ _
                  iterate 11 ((with_reducible refine wpStill_step ?_); intro K hK; go_simp; refine hK _ ?_; clear hK K)
                  refine wpStill_nil ?_
                  go_wp2
                  go_roundg (k - (i + 1))
                  case rel => exact ⟨i + 1, by omega, rfl, by go_num, HBL.out.drew⟩
                  case measure => omega
                · have h1'' : ¬ (i : Int) < k := by omega
                  have HBL := Lib.hid hbl
                  clear hbl
                  go_wp2
                  go_ret
                  exact ⟨rfl, HP.out.below.trans (HBL.out.mono HP.out.below.size)⟩
end Go.Proofs.Ytlpidedijknohaa.Hq
