/-
  Layer 12: there and back (EdgesBack), the law's walk.
-/
import Derived.Test.YtlpidedijknohaaJm
namespace Go.Proofs.Ytlpidedijknohaa.Hq
open Go.RowKit Ob Hr Hj Eg
set_option linter.unusedVariables false

/-- the law's arguments in their boxes -/
structure BK (w W : World) (o : Thing) (A : Option Addr) (c : Nat) (P : Option Addr) (d : Nat) (s : ByteArray) : Prop where
  ob : BoxAt W w.heap.size 25 (objC o A c P d)
  sb : BoxAt W (w.heap.size + 1) 9 #[.string s]
  lies : Lies W w.heap.size o A P
  below : Below w.heap.size w W
section
variable {w W W' : World} {o : Thing} {A : Option Addr} {c : Nat} {P : Option Addr} {d : Nat} {s : ByteArray}
theorem BK.step (h : BK w W o A c P d s) (hb : Below W.heap.size W W') : BK w W' o A c P d s := ⟨h.ob.step hb, h.sb.step hb, h.lies.below (hb.mono h.below.size), h.below.trans (hb.mono h.below.size)⟩
theorem BK.all (h : BK w W o A c P d s) : Lies W W.heap.size o A P := h.lies.mono h.below.size
theorem bk_new (hl : Lies w w.heap.size o A P) : BK w ((w.alloc (.cells (objC o A c P d) 25 (0, 0))).alloc (.cells #[.string s] 9 (0, 0))) o A c P d s :=
  have h := two_new w 25 9 (objC o A c P d) #[.string s]
  ⟨h.a, h.b, hl.below h.below, h.below⟩
theorem BK.out {lo up : Nat} (h : BK w W o A c P d s) (ho : Out lo up W W') (hlo : w.heap.size + 2 ≤ lo) : BK w W' o A c P d s :=
  ⟨(ho.block _ (.inl (by omega))).trans h.ob, (ho.block _ (.inl (by omega))).trans h.sb, h.lies.below (ho.below.mono (by omega)), h.below.trans (ho.below.mono (by omega))⟩
end
/-- p, that is written to -/
structure PB (w W : World) (o : Thing) (gp lo M U : Nat) (Ap : Option Addr) (cp : Nat) (Pp : Option Addr) (dp : Nat) (es : List Ent) (ps : List ByteArray) : Prop where
  pb : BoxAt W gp 25 (objC o Ap cp Pp dp)
  pe : RowIn 3 entV W lo M Ap es
  pp : RowIn 1 stV W M U Pp ps
  el : es.length = o.ents.length
  pl : ps.length = o.parents.length
  low : w.heap.size + 2 ≤ lo
  mid : lo ≤ M
  up : M ≤ U
  gpl : U ≤ gp
/-- another one, that stays -/
structure RB (W : World) (o : Thing) (gr U R : Nat) (Ar : Option Addr) (cr : Nat) (Pr : Option Addr) (dr : Nat) : Prop where
  rb : BoxAt W gr 25 (objC o Ar cr Pr dr)
  rows : ∃ M, RowIn 3 entV W U M Ar o.ents ∧ RowIn 1 stV W M R Pr o.parents ∧ U ≤ M ∧ M ≤ R ∧ R ≤ gr
section
variable {w W W' : World} {o : Thing} {gp gr lo M U R : Nat} {Ap : Option Addr} {cp : Nat} {Pp : Option Addr} {dp : Nat} {es : List Ent} {ps : List ByteArray} {Ar : Option Addr} {cr : Nat} {Pr : Option Addr} {dr : Nat}
theorem PB.step (h : PB w W o gp lo M U Ap cp Pp dp es ps) (hb : Below W.heap.size W W') : PB w W' o gp lo M U Ap cp Pp dp es ps := by
  have h1 := h.pb.lt
  have h2 := h.gpl
  have h3 := h.up
  exact ⟨h.pb.step hb, h.pe.keep fun g _ h4 => hb.block g (by omega), h.pp.keep fun g _ h4 => hb.block g (by omega), h.el, h.pl, h.low, h.mid, h3, h2⟩
theorem RB.step (h : RB W o gr U R Ar cr Pr dr) (hb : Below W.heap.size W W') : RB W' o gr U R Ar cr Pr dr := by
  have h1 := h.rb.lt
  obtain ⟨M, h2, h3, h4, h5, h6⟩ := h.rows
  exact ⟨h.rb.step hb, M, h2.keep fun g _ h7 => hb.block g (by omega), h3.keep fun g _ h7 => hb.block g (by omega), h4, h5, h6⟩
theorem RB.lies (h : RB W o gr U R Ar cr Pr dr) : Lies W W.heap.size o Ar Pr := by
  have h1 := h.rb.lt
  obtain ⟨M, h2, h3, h4, h5, h6⟩ := h.rows
  exact ⟨h2.recs.mono (by omega), strs_mono (strs_of_recs h3.recs) (by omega)⟩
theorem RB.out (h : RB W o gr U R Ar cr Pr dr) (ho : Out lo M W W') (hM : M ≤ U) : RB W' o gr U R Ar cr Pr dr := by
  obtain ⟨M', h2, h3, h4, h5, h6⟩ := h.rows
  exact ⟨(ho.block _ (.inr (by omega))).trans h.rb, M', h2.keep fun g h7 _ => ho.block g (.inr (by omega)), h3.keep fun g h7 _ => ho.block g (.inr (by omega)), h4, h5, h6⟩
theorem PB.lies (h : PB w W o gp lo M U Ap cp Pp dp o.ents o.parents) : Lies W W.heap.size o Ap Pp := by
  have h1 := h.pb.lt
  have h2 := h.gpl
  have h3 := h.up
  exact ⟨h.pe.recs.mono (by omega), strs_mono (strs_of_recs h.pp.recs) (by omega)⟩
theorem PB.wrote (h : PB w W o gp lo M U Ap cp Pp dp es ps) {p : Addr} (h1 : lo ≤ p.block) (h2 : p.block < M) {v : Value} {es' : List Ent} (he : es'.length = es.length) (hr : RowIn 3 entV (W.setCell p v) lo M Ap es') : PB w (W.setCell p v) o gp lo M U Ap cp Pp dp es' ps := by
  have h3 := h.gpl
  have h4 := h.up
  exact ⟨(Below.heap_setCell _ _ _ _ (by omega)).trans h.pb, hr, h.pp.keep fun g h5 _ => Below.heap_setCell _ _ _ _ (by omega), he.trans h.el, h.pl, h.low, h.mid, h4, h3⟩
theorem PB.wroteP (h : PB w W o gp lo M U Ap cp Pp dp es ps) {p : Addr} (h1 : M ≤ p.block) (h2 : p.block < U) {v : Value} {ps' : List ByteArray} (he : ps'.length = ps.length) (hr : RowIn 1 stV (W.setCell p v) M U Pp ps') : PB w (W.setCell p v) o gp lo M U Ap cp Pp dp es ps' := by
  have h3 := h.gpl
  exact ⟨(Below.heap_setCell _ _ _ _ (by omega)).trans h.pb, h.pe.keep fun g _ h5 => Below.heap_setCell _ _ _ _ (by omega), hr, h.el, he.trans h.pl, h.low, h.mid, h.up, h3⟩
end
theorem same_self (o : Thing) : same o o = true := same_iff.2 rfl

set_option maxHeartbeats 16000000 in
set_option maxRecDepth 100000 in
theorem backLaw_any (o : Thing) (A : Option Addr) (c : Nat) (P : Option Addr) (d : Nat) (s : ByteArray) (w : World) (hl : Lies w w.heap.size o A P) (hr : Hj.Reach o) :
    Calls Try.prog 4 #[.agg (objC o A c P d), .string s] w fun e w' => e = .returned (.bool true) ∧ Below w.heap.size w w' := by
  have HA := Lib.hid awake12_any
  have HW := Lib.hid (fun W (h : Lies W W.heap.size o A P) => few_any W W.heap.size o A c P d h (Nat.le_refl _) hr)
  have HP := Lib.hid (bk_new (c := c) (d := d) (s := s) hl)
  clear hl hr
  cases hf : few o with
  | false =>
    rw [hf] at HW
    clear hf
    go_enter Try.func4, Try.ntmps4
    go_wp2_with (first | (go_at_call 6; refine (HA.out _).mono ?_; rintro r w5 ⟨rfl, hb5⟩; have HP := Lib.hid (HP.out.step hb5); obtain ⟨c0, c1, c2, c3, c4, c5, c6, c7, c8, c9⟩ := HP.out.ob.ten; clear hb5) | (go_at_call 7; refine (HW.out _ HP.out.all).mono ?_; rintro r w5 ⟨rfl, hb5⟩; have HP := Lib.hid (HP.out.step hb5); have s0 := HP.out.sb.cell 0; clear hb5))
    go_ret
    exact ⟨rfl, HP.out.below⟩
  | true =>
    have hs := few_small hf
    rw [hf] at HW
    clear hf
    by_cases hz : 100 < s.size
    · have i1 : decide ((100 : Int) < s.size) = true := decide_eq_true (by omega)
      clear hs hz
      go_enter Try.func4, Try.ntmps4
      go_wp2_with (first | (go_at_call 6; refine (HA.out _).mono ?_; rintro r w5 ⟨rfl, hb5⟩; have HP := Lib.hid (HP.out.step hb5); obtain ⟨c0, c1, c2, c3, c4, c5, c6, c7, c8, c9⟩ := HP.out.ob.ten; clear hb5) | (go_at_call 7; refine (HW.out _ HP.out.all).mono ?_; rintro r w5 ⟨rfl, hb5⟩; have HP := Lib.hid (HP.out.step hb5); have s0 := HP.out.sb.cell 0; clear hb5))
      go_ret
      exact ⟨rfl, HP.out.below⟩
    · have i1 : decide ((100 : Int) < s.size) = false := decide_eq_false (by omega)
      have hmf : ∀ (fn : Fn) (first cap : Array Value) (w : World), (Instr.makeFunc fn first cap).run Try.prog w = .ok (.func fn first cap) w := fun _ _ _ _ => rfl
      have HM1 := Lib.hid (fun W (h : Lies W W.heap.size o A P) => mapId W o A c P d h hs)
      have HM2 := Lib.hid (fun W (h : Lies W W.heap.size o A P) (hb : W.cell? ⟨w.heap.size + 1, 0, none⟩ = some (.string s)) => mapAdd (enters_of Try.func18 (by kernel_rfl) rfl) clAdd W o A c P d (w.heap.size + 1) s hb (by omega) h hs)
      have HM3 := Lib.hid (fun W A c P d (h : Lies W W.heap.size (withF o ((idsF o).map (s ++ ·))) A P) (hb : W.cell? ⟨w.heap.size + 1, 0, none⟩ = some (.string s)) => mapCut W o A c P d (w.heap.size + 1) s hb (by omega) h hs)
      have hn1 := hs.ents
      have hn2 := hs.pars
      have HSM := Lib.hid (fun W A' c' P' d' (h1 : Lies W W.heap.size o A' P') (h2 : Lies W W.heap.size o A P) => show Calls Try.prog 15 #[.agg (objC o A' c' P' d'), .agg (objC o A c P d)] W fun e w' => e = .returned (.bool true) ∧ Below W.heap.size W w' from by have := same_any W W.heap.size o o A' c' P' d' A c P d h1 h2 (Nat.le_refl _) (by omega) (by omega); rwa [same_self] at this)
      generalize withF o ((idsF o).map (s ++ ·)) = q at *
      clear hs hz
      go_enter Try.func4, Try.ntmps4
      go_upto_region 5 with (first | (go_at_call 6; refine (HA.out _).mono ?_; rintro r w5 ⟨rfl, hb5⟩; have HP := Lib.hid (HP.out.step hb5); obtain ⟨c0, c1, c2, c3, c4, c5, c6, c7, c8, c9⟩ := HP.out.ob.ten; clear hb5) | (go_at_call 7; refine (HW.out _ HP.out.all).mono ?_; rintro r w5 ⟨rfl, hb5⟩; have HP := Lib.hid (HP.out.step hb5); have s0 := HP.out.sb.cell 0; obtain ⟨c0, c1, c2, c3, c4, c5, c6, c7, c8, c9⟩ := HP.out.ob.ten; clear hb5))
      go_upto_region 6 with (go_at_call 13; refine (HM1.out _ HP.out.all).mono ?_; rintro r w6 ⟨Ap, cp, Pp, dp, M, U, rfl, hpe, hpp, hm1, hm2, hm3, hb6⟩; have HRP := Lib.hid (And.intro hpe (And.intro hpp (And.intro (show w.heap.size + 2 ≤ w5.heap.size from HP.out.sb.lt) (And.intro hm1 (And.intro hm2 hm3))))); have HP := Lib.hid (HP.out.step hb6); clear hpe hpp hm1 hm2 hm3 hb6 c0 c1 c2 c3 c4 c5 c6 c7 c8 c9 s0)
      have hba : Below w6.heap.size w6 (w6.alloc (.cells (objC o Ap cp Pp dp) 25 (0, 0))) := (Below.refl _ w6).alloc (Nat.le_refl _) _
      have HP := Lib.hid (HP.out.step hba)
      have HPB := Lib.hid (show PB w (w6.alloc (.cells (objC o Ap cp Pp dp) 25 (0, 0))) o w6.heap.size w5.heap.size M U Ap cp Pp dp o.ents o.parents from ⟨box_new w6 _ _, HRP.out.1.keep fun g _ h4 => hba.block g (by have := HRP.out.2.2.2.2; omega), HRP.out.2.1.keep fun g _ h4 => hba.block g (by have := HRP.out.2.2.2.2; omega), rfl, rfl, HRP.out.2.2.1, HRP.out.2.2.2.1, HRP.out.2.2.2.2.1, HRP.out.2.2.2.2.2⟩)
      clear hba HRP
      generalize w6.alloc (.cells (objC o Ap cp Pp dp) 25 (0, 0)) = W7 at *
      generalize w6.heap.size = gp at *
      generalize w5.heap.size = lo at *
      have s0 := HP.out.sb.cell 0
      obtain ⟨c0, c1, c2, c3, c4, c5, c6, c7, c8, c9⟩ := HP.out.ob.ten
      go_upto_region 7 with (go_at_call 13; refine (HM2.out _ HP.out.all s0).mono ?_; rintro r w8 ⟨Aq, cq, Pq, dq, Mq, Uq, rfl, hpe, hpp, hm1, hm2, hm3, hb8⟩; have HRQ := Lib.hid (And.intro hpe (And.intro hpp (And.intro hm1 (And.intro hm2 hm3)))); have HP := Lib.hid (HP.out.step hb8); have HPB := Lib.hid (HPB.out.step hb8); clear hpe hpp hm1 hm2 hm3 hb8 c0 c1 c2 c3 c4 c5 c6 c7 c8 c9 s0)
      have hba : Below w8.heap.size w8 (w8.alloc (.cells (objC q Aq cq Pq dq) 25 (0, 0))) := (Below.refl _ w8).alloc (Nat.le_refl _) _
      have HP := Lib.hid (HP.out.step hba)
      have HPB := Lib.hid (HPB.out.step hba)
      have HQB := Lib.hid (show RB (w8.alloc (.cells (objC q Aq cq Pq dq) 25 (0, 0))) q w8.heap.size W7.heap.size Uq Aq cq Pq dq from ⟨box_new w8 _ _, Mq, HRQ.out.1.keep fun g _ h4 => hba.block g (by have := HRQ.out.2.2.2; omega), HRQ.out.2.1.keep fun g _ h4 => hba.block g (by have := HRQ.out.2.2.2; omega), HRQ.out.2.2.1, HRQ.out.2.2.2.1, HRQ.out.2.2.2.2⟩)
      clear hba HRQ
      generalize w8.alloc (.cells (objC q Aq cq Pq dq) 25 (0, 0)) = W9 at *
      generalize w8.heap.size = gq at *
      have s0 := HP.out.sb.cell 0
      obtain ⟨c0, c1, c2, c3, c4, c5, c6, c7, c8, c9⟩ := HQB.out.rb.ten
      go_upto_region 8 with (go_at_call 13; refine (HM3.out _ _ _ _ _ HQB.out.lies s0).mono ?_; rintro r w10 ⟨Ar, cr, Pr, dr, Mr, Ur, rfl, hpe, hpp, hm1, hm2, hm3, hb10⟩; have HRR := Lib.hid (And.intro hpe (And.intro hpp (And.intro (show U ≤ W9.heap.size from Nat.le_trans HPB.out.gpl (Nat.le_of_lt HPB.out.pb.lt)) (And.intro hm1 (And.intro hm2 hm3))))); have HP := Lib.hid (HP.out.step hb10); have HPB := Lib.hid (HPB.out.step hb10); clear hpe hpp hm1 hm2 hm3 hb10 c0 c1 c2 c3 c4 c5 c6 c7 c8 c9 s0)
      have hba : Below w10.heap.size w10 (w10.alloc (.cells (objC o Ar cr Pr dr) 25 (0, 0))) := (Below.refl _ w10).alloc (Nat.le_refl _) _
      have HP := Lib.hid (HP.out.step hba)
      have HPB := Lib.hid (HPB.out.step hba)
      have HRB := Lib.hid (show RB (w10.alloc (.cells (objC o Ar cr Pr dr) 25 (0, 0))) o w10.heap.size U Ur Ar cr Pr dr from ⟨box_new w10 _ _, Mr, (HRR.out.1.keep fun g _ h4 => hba.block g (by have := HRR.out.2.2.2.2; omega)).wider HRR.out.2.2.1 (Nat.le_refl _), HRR.out.2.1.keep fun g _ h4 => hba.block g (by have := HRR.out.2.2.2.2; omega), Nat.le_trans HRR.out.2.2.1 HRR.out.2.2.2.1, HRR.out.2.2.2.2.1, HRR.out.2.2.2.2.2⟩)
      clear hba HRR HQB
      generalize w10.alloc (.cells (objC o Ar cr Pr dr) 25 (0, 0)) = W11 at *
      generalize w10.heap.size = gr at *
      obtain ⟨c0, c1, c2, c3, c4, c5, c6, c7, c8, c9⟩ := HP.out.ob.ten
      obtain ⟨d0, d1, d2, d3, d4, d5, d6, d7, d8, d9⟩ := HPB.out.pb.ten
      obtain ⟨e0, e1, e2, e3, e4, e5, e6, e7, e8, e9⟩ := HRB.out.rb.ten
      go_upto_region 10 with (go_at_call 15; first
        | (with_reducible refine (HSM.out _ _ _ _ _ HPB.out.lies HP.out.all).mono ?_; rintro r w12 ⟨rfl, hb12⟩; have HP := Lib.hid (HP.out.step hb12); have HPB := Lib.hid (HPB.out.step hb12); have HRB := Lib.hid (HRB.out.step hb12); clear hb12 c0 c1 c2 c3 c4 c5 c6 c7 c8 c9 e0 e1 e2 e3 e4 e5 e6 e7 e8 e9 d0 d1 d2 d3 d4 d5 d6 d7 d8 d9; obtain ⟨c0, c1, c2, c3, c4, c5, c6, c7, c8, c9⟩ := HP.out.ob.ten; obtain ⟨e0, e1, e2, e3, e4, e5, e6, e7, e8, e9⟩ := HRB.out.rb.ten)
        | (with_reducible refine (HSM.out _ _ _ _ _ HRB.out.lies HP.out.all).mono ?_; rintro r w13 ⟨rfl, hb13⟩; have HP := Lib.hid (HP.out.step hb13); have HPB := Lib.hid (HPB.out.step hb13); have HRB := Lib.hid (HRB.out.step hb13); clear hb13 c0 c1 c2 c3 c4 c5 c6 c7 c8 c9 e0 e1 e2 e3 e4 e5 e6 e7 e8 e9))
      go_wp2_with fail
      go_loopg [11] o.ents.length (fun g v wr => ∃ (k : Nat) (es : List Ent), k ≤ o.ents.length ∧ g = o.ents.length - k ∧ v = .int .i64 k ∧ PB w wr o gp lo M U Ap cp Pp dp es o.parents ∧ Out lo U w13 wr)
      case atStart => exact ⟨0, o.ents, Nat.zero_le _, rfl, rfl, HPB.out, Out.refl _ _ _⟩
      case round =>
        obtain ⟨k, es, hkl, rfl, rfl, hpb, hout⟩ := hrel
        have d2 := hpb.pb.ten.2.2.1
        by_cases hlt : k < o.ents.length
        · have h1 : (k : Int) < o.ents.length := by omega
          have h0 : (0 : Int) ≤ k := by omega
          have hw1 : IntKind.i64.wrap ((k : Int) + 1) = (k : Int) + 1 := IntWalk.i64_in _ (by omega)
          obtain ⟨ad, e, ⟨v1, k1⟩, f1, l1, u1, es1, hel1, hr1⟩ := put_id hpb.pe (by rw [hpb.el]; exact hlt) ⟨#[122]⟩
          have hp1 := hpb.wrote (p := ⟨(ad.add (k * 3)).block, (ad.add (k * 3)).off + 2, none⟩) l1 u1 hel1 hr1
          have d2b := hp1.pb.ten.2.2.1
          obtain ⟨ad', e', ⟨v2, k2⟩, f2, l2, u2, es2, hel2, hr2⟩ := put_mode hp1.pe (by rw [hp1.el]; exact hlt) 9
          rw [e] at e'
          injection e' with e'
          subst e'
          have hp2 := hp1.wrote l2 u2 hel2 hr2
          have HX := Lib.hid (And.intro hp2 ((hout.set (p := ⟨(ad.add (k * 3)).block, (ad.add (k * 3)).off + 2, none⟩) l1 (Nat.lt_of_lt_of_le u1 hpb.up) (.string ⟨#[122]⟩)).set l2 (Nat.lt_of_lt_of_le u2 hpb.up) (.int .i64 9)))
          subst e
          clear hpb hout hp1 hp2 hr1 hr2 l1 u1 l2 u2 hel1 hel2
          go_wp2
          go_roundg (o.ents.length - (k + 1))
          case rel => exact ⟨k + 1, es2, by omega, rfl, by go_num, HX.out.1, HX.out.2⟩
          case measure => omega
        · have h1 : ¬ (k : Int) < o.ents.length := by omega
          have HX := Lib.hid (And.intro hpb hout)
          clear hpb hout
          go_wp2_with fail
          go_loopg [12] o.parents.length (fun g v wr => ∃ (k : Nat) (ps : List ByteArray), k ≤ o.parents.length ∧ g = o.parents.length - k ∧ v = .int .i64 k ∧ PB w wr o gp lo M U Ap cp Pp dp es ps ∧ Out lo U w13 wr)
          case atStart => exact ⟨0, o.parents, Nat.zero_le _, rfl, rfl, HX.out.1, HX.out.2⟩
          case round =>
            obtain ⟨k, ps, hkl, rfl, rfl, hpb, hout⟩ := hrel
            have d4 := hpb.pb.ten.2.2.2.2.1
            by_cases hlt : k < o.parents.length
            · have h1 : (k : Int) < o.parents.length := by omega
              have h0 : (0 : Int) ≤ k := by omega
              have hw1 : IntKind.i64.wrap ((k : Int) + 1) = (k : Int) + 1 := IntWalk.i64_in _ (by omega)
              obtain ⟨ad, e, ⟨v1, k1⟩, f1, l1, u1, ps1, hel1, hr1⟩ := put_par hpb.pp (by rw [hpb.pl]; exact hlt) ⟨#[122]⟩
              have hp1 := hpb.wroteP l1 u1 hel1 hr1
              have HX := Lib.hid (And.intro hp1 (hout.set (Nat.le_trans hpb.mid l1) u1 (.string ⟨#[122]⟩)))
              subst e
              clear hpb hout hp1 hr1 l1 u1 hel1
              go_wp2
              go_roundg (o.parents.length - (k + 1))
              case rel => exact ⟨k + 1, ps1, by omega, rfl, by go_num, HX.out.1, HX.out.2⟩
              case measure => omega
            · have h1 : ¬ (k : Int) < o.parents.length := by omega
              have HP := Lib.hid (HP.out.out hout HPB.out.low)
              have HRB := Lib.hid (HRB.out.out hout (Nat.le_refl _))
              obtain ⟨c0, c1, c2, c3, c4, c5, c6, c7, c8, c9⟩ := HP.out.ob.ten
              obtain ⟨e0, e1, e2, e3, e4, e5, e6, e7, e8, e9⟩ := HRB.out.rb.ten
              clear hpb hout
              go_wp2_with (go_at_call 15; refine (HSM.out _ _ _ _ _ HRB.out.lies HP.out.all).mono ?_; rintro r w14 ⟨rfl, hb14⟩)
              go_ret
              exact ⟨rfl, HP.out.below.trans (hb14.mono HP.out.below.size)⟩
end Go.Proofs.Ytlpidedijknohaa.Hq
