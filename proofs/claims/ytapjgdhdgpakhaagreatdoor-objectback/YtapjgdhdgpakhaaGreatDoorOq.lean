/-
  Layer 11: there and back (ObjectBack), by what the program's object is to answer.
-/
import Derived.Test.YtapjgdhdgpakhaaGreatDoorOn
namespace Go.Proofs.YtapjgdhdgpakhaaGreatDoor.Hj
open Go.RowKit Ob Hr
set_option linter.unusedVariables false

/-- the law's two objects -/
structure Duo (w W : World) (g1 g2 : Nat) (o : Thing) (A : Option Addr) (c : Nat) (P : Option Addr) (d : Nat) (p : Thing) (A' : Option Addr) (c' : Nat) (P' : Option Addr) (d' : Nat) : Prop where
  two : Two w W g1 25 (objC o A c P d) g2 25 (objC p A' c' P' d')
  lo : Lies W W.heap.size o A P
  lp : Lies W W.heap.size p A' P'
theorem Duo.step {w W W' : World} {g1 g2 : Nat} {o : Thing} {A : Option Addr} {c : Nat} {P : Option Addr} {d : Nat} {p : Thing} {A' : Option Addr} {c' : Nat} {P' : Option Addr} {d' : Nat} (h : Duo w W g1 g2 o A c P d p A' c' P' d') (hb : Below W.heap.size W W') : Duo w W' g1 g2 o A c P d p A' c' P' d' :=
  ⟨h.two.step hb, h.lo.step hb, h.lp.step hb⟩
theorem Duo.alloc {w W : World} {g1 g2 : Nat} {o : Thing} {A : Option Addr} {c : Nat} {P : Option Addr} {d : Nat} {p : Thing} {A' : Option Addr} {c' : Nat} {P' : Option Addr} {d' : Nat} (h : Duo w W g1 g2 o A c P d p A' c' P' d') (x : Go.Obj) : Duo w (W.alloc x) g1 g2 o A c P d p A' c' P' d' := h.step ((Below.refl _ W).alloc (Nat.le_refl _) x)
/-- a blob -/
def blobO (s : ByteArray) : Thing := { zero with kind := 1, text := s }
theorem blob_right {s : ByteArray} {sp : Int} (h1 : sp = 1 ∨ sp = 2) (h2 : s.size ≤ 65536) : Ob.right (blobO s) sp = true := by
  have hc : content (blobO s) = bl s := rfl
  unfold Ob.right
  rw [decide_eq_true h1, hc, bl_length, decide_eq_true h2]
  rfl
theorem same_strs {o p : Thing} {sp : Int} (h1 : Ob.right o sp = true) (h2 : Ob.right p sp = true) (hk : o.kind = p.kind) : ((str (content o)).toList == (str (content p)).toList) = Ob.same o p := by
  rw [Bool.eq_iff_iff, same_iff, toList_bl, toList_bl, bl_str, bl_str, beq_iff_eq]
  exact ⟨content_inj h1 h2 hk, fun e => by rw [e]⟩

set_option maxHeartbeats 16000000 in
set_option maxRecDepth 100000 in
theorem back_any {K : World → Prop} (F : Faces K) (o p : Thing) (A : Option Addr) (c : Nat) (P : Option Addr) (d : Nat) (A' : Option Addr) (c' : Nat) (P' : Option Addr) (d' : Nat) (sp : Int) (t : ByteArray) (w : World) (hK : K w) (hl : Lies w w.heap.size o A P) (hl' : Lies w w.heap.size p A' P') (hr : Reach o) (hr' : Reach p) (hd : o.parents.length ≤ d) (hd' : p.parents.length ≤ d') :
    Calls Tryz.prog 4 #[.agg (objC o A c P d), .agg (objC p A' c' P' d'), .int .i64 sp, .string t] w fun e w' => e = .returned (.bool true) ∧ Below w.heap.size w w' := by
  have HK := Lib.hid hK
  have HF := Lib.hid F
  have HD := Lib.hid hd
  have HD' := Lib.hid hd'
  clear hd hd'
  have HA := Lib.hid (fun W h => awake11_any F W h)
  have HW1 := Lib.hid (fun W (h : Lies W W.heap.size o A P) => few_any W W.heap.size o A c P d h (Nat.le_refl _) hr)
  have HW2 := Lib.hid (fun W (h : Lies W W.heap.size p A' P') => few_any W W.heap.size p A' c' P' d' h (Nat.le_refl _) hr')
  have hbw : Below w.heap.size w ((w.alloc (.cells (objC o A c P d) 25)).alloc (.cells (objC p A' c' P' d') 25)) := ((Below.refl _ w).alloc (Nat.le_refl _) _).alloc (by simp) _
  have HP := Lib.hid (show Duo w ((w.alloc (.cells (objC o A c P d) 25)).alloc (.cells (objC p A' c' P' d') 25)) w.heap.size (w.heap.size + 1) o A c P d p A' c' P' d' from ⟨two_new w _ _ _ _, hl.step hbw, hl'.step hbw⟩)
  clear hK F hl hl' hr hr' hbw
  cases hf : few o with
  | false =>
    rw [hf] at HW1
    clear hf
    go_enter Tryz.func4, Tryz.ntmps4
    go_wp2_with (first | (go_at_call 8; refine (HA.out _ (HF.out.under _ _ HK.out HP.out.two.below)).mono ?_; rintro r w5 ⟨rfl, hb5⟩; have HP := Lib.hid (HP.out.step hb5); obtain ⟨c0, c1, c2, c3, c4, c5, c6, c7, c8, c9⟩ := HP.out.two.a.ten; obtain ⟨d0, d1, d2, d3, d4, d5, d6, d7, d8, d9⟩ := HP.out.two.b.ten; clear hb5) | (go_at_call 9; with_reducible refine (HW1.out _ HP.out.lo).mono ?_; rintro r w5 ⟨rfl, hb5⟩; have HP := Lib.hid (HP.out.step hb5); obtain ⟨c0, c1, c2, c3, c4, c5, c6, c7, c8, c9⟩ := HP.out.two.a.ten; obtain ⟨d0, d1, d2, d3, d4, d5, d6, d7, d8, d9⟩ := HP.out.two.b.ten; clear hb5))
    go_ret
    exact ⟨rfl, HP.out.two.below⟩
  | true =>
    have hs := few_small hf
    rw [hf] at HW1
    clear hf
    cases hf : few p with
    | false =>
      rw [hf] at HW2
      clear hf hs
      go_enter Tryz.func4, Tryz.ntmps4
      go_wp2_with (first | (go_at_call 8; refine (HA.out _ (HF.out.under _ _ HK.out HP.out.two.below)).mono ?_; rintro r w5 ⟨rfl, hb5⟩; have HP := Lib.hid (HP.out.step hb5); obtain ⟨c0, c1, c2, c3, c4, c5, c6, c7, c8, c9⟩ := HP.out.two.a.ten; obtain ⟨d0, d1, d2, d3, d4, d5, d6, d7, d8, d9⟩ := HP.out.two.b.ten; clear hb5) | (go_at_call 9; with_reducible refine (HW1.out _ HP.out.lo).mono ?_; rintro r w5 ⟨rfl, hb5⟩; have HP := Lib.hid (HP.out.step hb5); obtain ⟨c0, c1, c2, c3, c4, c5, c6, c7, c8, c9⟩ := HP.out.two.a.ten; obtain ⟨d0, d1, d2, d3, d4, d5, d6, d7, d8, d9⟩ := HP.out.two.b.ten; clear hb5) | (go_at_call 9; with_reducible refine (HW2.out _ HP.out.lp).mono ?_; rintro r w5 ⟨rfl, hb5⟩; have HP := Lib.hid (HP.out.step hb5); obtain ⟨c0, c1, c2, c3, c4, c5, c6, c7, c8, c9⟩ := HP.out.two.a.ten; obtain ⟨d0, d1, d2, d3, d4, d5, d6, d7, d8, d9⟩ := HP.out.two.b.ten; clear hb5))
      go_ret
      exact ⟨rfl, HP.out.two.below⟩
    | true =>
      have hs' := few_small hf
      rw [hf] at HW2
      clear hf
      by_cases ht : 20000 < t.size
      · have hti : decide ((20000 : Int) < t.size) = true := decide_eq_true (by omega)
        clear ht hs hs'
        go_enter Tryz.func4, Tryz.ntmps4
        go_wp2_with (first | (go_at_call 8; refine (HA.out _ (HF.out.under _ _ HK.out HP.out.two.below)).mono ?_; rintro r w5 ⟨rfl, hb5⟩; have HP := Lib.hid (HP.out.step hb5); obtain ⟨c0, c1, c2, c3, c4, c5, c6, c7, c8, c9⟩ := HP.out.two.a.ten; obtain ⟨d0, d1, d2, d3, d4, d5, d6, d7, d8, d9⟩ := HP.out.two.b.ten; clear hb5) | (go_at_call 9; with_reducible refine (HW1.out _ HP.out.lo).mono ?_; rintro r w5 ⟨rfl, hb5⟩; have HP := Lib.hid (HP.out.step hb5); obtain ⟨c0, c1, c2, c3, c4, c5, c6, c7, c8, c9⟩ := HP.out.two.a.ten; obtain ⟨d0, d1, d2, d3, d4, d5, d6, d7, d8, d9⟩ := HP.out.two.b.ten; clear hb5) | (go_at_call 9; with_reducible refine (HW2.out _ HP.out.lp).mono ?_; rintro r w5 ⟨rfl, hb5⟩; have HP := Lib.hid (HP.out.step hb5); obtain ⟨c0, c1, c2, c3, c4, c5, c6, c7, c8, c9⟩ := HP.out.two.a.ten; obtain ⟨d0, d1, d2, d3, d4, d5, d6, d7, d8, d9⟩ := HP.out.two.b.ten; clear hb5))
        go_ret
        exact ⟨rfl, HP.out.two.below⟩
      · have hti : decide ((20000 : Int) < t.size) = false := decide_eq_false (by omega)
        have HS := Lib.hid (And.intro hs (And.intro hs' ht))
        have O1 := Lib.hid (fun k W h => HF.out.parse k t sp W h (by omega))
        clear ht hs hs'
        go_enter Tryz.func4, Tryz.ntmps4
        go_upto_region 5 with (first | (go_at_call 8; refine (HA.out _ (HF.out.under _ _ HK.out HP.out.two.below)).mono ?_; rintro r w5 ⟨rfl, hb5⟩; have HP := Lib.hid (HP.out.step hb5); obtain ⟨c0, c1, c2, c3, c4, c5, c6, c7, c8, c9⟩ := HP.out.two.a.ten; obtain ⟨d0, d1, d2, d3, d4, d5, d6, d7, d8, d9⟩ := HP.out.two.b.ten; clear hb5) | (go_at_call 9; with_reducible refine (HW1.out _ HP.out.lo).mono ?_; rintro r w5 ⟨rfl, hb5⟩; have HP := Lib.hid (HP.out.step hb5); obtain ⟨c0, c1, c2, c3, c4, c5, c6, c7, c8, c9⟩ := HP.out.two.a.ten; obtain ⟨d0, d1, d2, d3, d4, d5, d6, d7, d8, d9⟩ := HP.out.two.b.ten; clear hb5) | (go_at_call 9; with_reducible refine (HW2.out _ HP.out.lp).mono ?_; rintro r w5 ⟨rfl, hb5⟩; have HP := Lib.hid (HP.out.step hb5); obtain ⟨c0, c1, c2, c3, c4, c5, c6, c7, c8, c9⟩ := HP.out.two.a.ten; obtain ⟨d0, d1, d2, d3, d4, d5, d6, d7, d8, d9⟩ := HP.out.two.b.ten; clear hb5))
        clear HA HW1 HW2 hti
        go_wp2_with fail
        go_loopg [9] 4 (fun g i wr => ∃ k : Nat, 1 ≤ k ∧ k ≤ 5 ∧ g = 5 - k ∧ i = .int .i64 k ∧ Duo w wr w.heap.size (w.heap.size + 1) o A c P d p A' c' P' d')
        case atStart => exact ⟨1, by omega, by omega, rfl, rfl, HP.out⟩
        case round =>
          obtain ⟨k, hk1, hk5, rfl, rfl, hp⟩ := hrel
          have HP := Lib.hid hp
          clear hp
          by_cases h5 : k < 5
          · have h5i : (k : Int) < 5 := by omega
            have hps := parse_some (k := k) (c := bl t) (sp := sp) (o := (parseF k (bl t) sp).1)
            have hpe : parseF k (bl t) sp = ((parseF k (bl t) sp).1, (parseF k (bl t) sp).2) := rfl
            have hsm := parse_small k (bl t) sp
            have O1k := Lib.hid (O1.out (k : Int))
            generalize (parseF k (bl t) sp).1 = q at *
            generalize (parseF k (bl t) sp).2 = eq at *
            by_cases he : eq = 0
            · subst he
              obtain ⟨hqk, hqr, hqc⟩ := hps hpe
              have O2 := Lib.hid (fun A c P d W h (hl : Lies W W.heap.size q A P) (hq : q.parents.length ≤ d) => show Calls Tryz.prog 10 #[.agg (objC q A c P d), .int .i64 sp] W fun e w' => e = .returned (.tuple #[.string t, .int .i64 0]) ∧ Below W.heap.size W w' from by
                have := HF.out.print q A c P d sp W h hl hsm hq
                rwa [print_ok hqr, hqc, str_bl] at this)
              have O3 := Lib.hid (fun A c P d W h (hl : Lies W W.heap.size q A P) (hq : q.parents.length ≤ d) => show Calls Tryz.prog 15 #[.agg (objC q A c P d), .int .i64 sp] W fun e w' => e = .returned (.bool true) ∧ Below W.heap.size W w' from by
                have := HF.out.right q A c P d sp W h hl hsm hq
                rwa [hqr] at this)
              have q1 : (q.kind != (k : Int)) = false := by simp [hqk]
              have q2 : (t.toList != t.toList) = false := by simp
              clear hps hpe hsm hqk hqr hqc
              go_upto_region 9 with (go_at_call 12; refine (O1k.out _ (HF.out.under _ _ HK.out HP.out.two.below)).mono ?_; rintro r w3 ⟨A3, c3, P3, d3, rfl, ⟨hl3, hd3⟩, hb3⟩)
              have HDQ := Lib.hid hd3
              clear hd3
              have HQ := Lib.hid (And.intro (box_new w3 25 (objC q A3 c3 P3 d3)) (hl3.step ((Below.refl _ w3).alloc (Nat.le_refl _) (.cells (objC q A3 c3 P3 d3) 25))))
              have HP := Lib.hid ((HP.out.step hb3).alloc (.cells (objC q A3 c3 P3 d3) 25))
              generalize w3.alloc (.cells (objC q A3 c3 P3 d3) 25) = W3 at *
              generalize w3.heap.size = g3 at *
              clear hl3 hb3
              obtain ⟨e0, e1, e2, e3, e4, e5, e6, e7, e8, e9⟩ := HQ.out.1.ten
              go_wp2_with (first
                | (go_at_call 10; refine (O2.out _ _ _ _ _ (HF.out.under _ _ HK.out HP.out.two.below) HQ.out.2 HDQ.out).mono ?_; rintro r w5 ⟨rfl, hb5⟩; have HP := Lib.hid (HP.out.step hb5); have HQ := Lib.hid (And.intro (HQ.out.1.step hb5) (HQ.out.2.step hb5)); obtain ⟨e0, e1, e2, e3, e4, e5, e6, e7, e8, e9⟩ := HQ.out.1.ten; clear hb5)
                | (go_at_call 15; refine (O3.out _ _ _ _ _ (HF.out.under _ _ HK.out HP.out.two.below) HQ.out.2 HDQ.out).mono ?_; rintro r w5 ⟨rfl, hb5⟩; have HP := Lib.hid (HP.out.step hb5); clear hb5))
              go_roundg (5 - (k + 1))
              case rel => exact ⟨k + 1, by omega, by omega, rfl, by go_num, HP.out⟩
              case measure => omega
            · have q1 : (eq == 0) = false := beq_eq_false_iff_ne.2 he
              clear hps hpe hsm he
              go_upto_region 9 with (go_at_call 12; refine (O1k.out _ (HF.out.under _ _ HK.out HP.out.two.below)).mono ?_; rintro r w3 ⟨A3, c3, P3, d3, rfl, ⟨hl3, _⟩, hb3⟩)
              have HP := Lib.hid ((HP.out.step hb3).alloc (.cells (objC q A3 c3 P3 d3) 25))
              generalize w3.alloc (.cells (objC q A3 c3 P3 d3) 25) = W3 at *
              generalize w3.heap.size = g3 at *
              clear hl3 hb3
              go_wp2_with fail
              go_roundg (5 - (k + 1))
              case rel => exact ⟨k + 1, by omega, by omega, rfl, by go_num, HP.out⟩
              case measure => omega
          · have h5i : ¬ (k : Int) < 5 := by omega
            clear O1
            obtain ⟨c0, c1, c2, c3, c4, c5, c6, c7, c8, c9⟩ := HP.out.two.a.ten
            obtain ⟨d0, d1, d2, d3, d4, d5, d6, d7, d8, d9⟩ := HP.out.two.b.ten
            have hs := HS.out.1
            have hs' := HS.out.2.1
            clear hk1 hk5 h5
            cases hro : Ob.right o sp with
            | false =>
              have O2 := Lib.hid (fun W h (hl : Lies W W.heap.size o A P) => HF.out.print o A c P d sp W h hl hs HD.out)
              have O3 := Lib.hid (fun W h (hl : Lies W W.heap.size o A P) => HF.out.right o A c P d sp W h hl hs HD.out)
              rw [hro] at O3
              obtain ⟨n1, n2⟩ := print_not hro
              rw [n1] at O2
              generalize (printF o sp).2 = eo at *
              have q1 : (eo != 0) = true := by simp [n2]
              clear n1 n2 hro hs hs'
              go_wp2_with (first
                | (go_at_call 10; refine (O2.out _ (HF.out.under _ _ HK.out HP.out.two.below) HP.out.lo).mono ?_; rintro r w5 ⟨rfl, hb5⟩; have HP := Lib.hid (HP.out.step hb5); obtain ⟨c0, c1, c2, c3, c4, c5, c6, c7, c8, c9⟩ := HP.out.two.a.ten; obtain ⟨d0, d1, d2, d3, d4, d5, d6, d7, d8, d9⟩ := HP.out.two.b.ten; clear hb5)
                | (go_at_call 15; refine (O3.out _ (HF.out.under _ _ HK.out HP.out.two.below) HP.out.lo).mono ?_; rintro r w5 ⟨rfl, hb5⟩; have HP := Lib.hid (HP.out.step hb5); obtain ⟨c0, c1, c2, c3, c4, c5, c6, c7, c8, c9⟩ := HP.out.two.a.ten; obtain ⟨d0, d1, d2, d3, d4, d5, d6, d7, d8, d9⟩ := HP.out.two.b.ten; clear hb5))
              go_ret
              exact ⟨rfl, HP.out.two.below⟩
            | true =>
              have hro3 := right_parts hro
              have O2 := Lib.hid (fun W h (hl : Lies W W.heap.size o A P) => show Calls Tryz.prog 10 #[.agg (objC o A c P d), .int .i64 sp] W fun e w' => e = .returned (.tuple #[.string (str (content o)), .int .i64 0]) ∧ Below W.heap.size W w' from by
                have := HF.out.print o A c P d sp W h hl hs HD.out
                rwa [print_ok hro] at this)
              have O3 := Lib.hid (fun W h => show Calls Tryz.prog 12 #[.int .i64 o.kind, .string (str (content o)), .int .i64 sp] W fun e w' => ∃ A c P d, e = .returned (.tuple #[.agg (objC o A c P d), .int .i64 0]) ∧ Lies w' w'.heap.size o A P ∧ Below W.heap.size W w' from by
                have := HF.out.parse' o.kind (str (content o)) sp W h (by rw [str_size]; omega)
                rwa [bl_str, parse_of hro] at this)
              have hbr := blob_right (s := str (content o)) hro3.1 (by rw [str_size]; exact hro3.2.2)
              have O4 := Lib.hid (fun W h => show Calls Tryz.prog 12 #[.int .i64 1, .string (str (content o)), .int .i64 sp] W fun e w' => ∃ A c P d, e = .returned (.tuple #[.agg (objC (blobO (str (content o))) A c P d), .int .i64 0]) ∧ Lies w' w'.heap.size (blobO (str (content o))) A P ∧ Below W.heap.size W w' from by
                have := HF.out.parse' 1 (str (content o)) sp W h (by rw [str_size]; omega)
                rwa [show parseF 1 (bl (str (content o))) sp = (blobO (str (content o)), 0) from parse_of hbr] at this)
              have O5 := Lib.hid (fun A3 c3 P3 d3 W h (hl3 : Lies W W.heap.size o A3 P3) (hl : Lies W W.heap.size o A P) => show Calls Tryz.prog 17 #[.agg (objC o A3 c3 P3 d3), .agg (objC o A c P d)] W fun e w' => e = .returned (.bool true) ∧ Below W.heap.size W w' from by
                have := HF.out.same o o A3 c3 P3 d3 A c P d W h hl3 hl hs hs
                rwa [same_iff.2 rfl] at this)
              have O6 := Lib.hid (fun W h (hl : Lies W W.heap.size p A' P') => HF.out.print p A' c' P' d' sp W h hl hs' HD'.out)
              have O7 := Lib.hid (fun W h (hl : Lies W W.heap.size o A P) (hl' : Lies W W.heap.size p A' P') => HF.out.same o p A c P d A' c' P' d' W h hl hl' hs hs')
              have hSS := same_strs (o := o) (p := p) (sp := sp) hro
              have hlast : ∃ (T : ByteArray) (h : Int), printF p sp = (T, h) ∧ ((h != 0) = true ∨ ((h != 0) = false ∧ (o.kind != p.kind) = true) ∨ ((h != 0) = false ∧ (o.kind != p.kind) = false ∧ ((str (content o)).toList == T.toList) = Ob.same o p)) := by
                refine ⟨(printF p sp).1, (printF p sp).2, rfl, ?_⟩
                cases hrp : Ob.right p sp with
                | false => exact .inl (by simp [(print_not hrp).2])
                | true =>
                  rw [print_ok hrp]
                  by_cases hk : o.kind = p.kind
                  · exact .inr (.inr ⟨rfl, by simp [hk], hSS hrp hk⟩)
                  · exact .inr (.inl ⟨rfl, by simp [hk]⟩)
              obtain ⟨T, h, hpr, hcase⟩ := hlast
              rw [hpr] at O6
              generalize Ob.same o p = sm at *
              generalize str (content o) = S at *
              have q1 : (S.toList != S.toList) = false := by simp
              clear hro hro3 hbr hSS hpr hs hs'
              go_upto_region 16 with (first | (go_at_call 10; refine (O2.out _ (HF.out.under _ _ HK.out HP.out.two.below) HP.out.lo).mono ?_; rintro r w5 ⟨rfl, hb5⟩; have HP := Lib.hid (HP.out.step hb5); obtain ⟨c0, c1, c2, c3, c4, c5, c6, c7, c8, c9⟩ := HP.out.two.a.ten; obtain ⟨d0, d1, d2, d3, d4, d5, d6, d7, d8, d9⟩ := HP.out.two.b.ten; clear hb5))
              go_upto_region 17 with (go_at_call 12; refine (O3.out _ (HF.out.under _ _ HK.out HP.out.two.below)).mono ?_; rintro r w3 ⟨A3, c3, P3, d3, rfl, hl3, hb3⟩)
              have HQ := Lib.hid (And.intro (box_new w3 25 (objC o A3 c3 P3 d3)) (hl3.step ((Below.refl _ w3).alloc (Nat.le_refl _) (.cells (objC o A3 c3 P3 d3) 25))))
              have HP := Lib.hid ((HP.out.step hb3).alloc (.cells (objC o A3 c3 P3 d3) 25))
              generalize w3.alloc (.cells (objC o A3 c3 P3 d3) 25) = W3 at *
              generalize w3.heap.size = g3 at *
              clear hl3 hb3
              obtain ⟨e0, e1, e2, e3, e4, e5, e6, e7, e8, e9⟩ := HQ.out.1.ten
              obtain ⟨c0, c1, c2, c3, c4, c5, c6, c7, c8, c9⟩ := HP.out.two.a.ten
              obtain ⟨d0, d1, d2, d3, d4, d5, d6, d7, d8, d9⟩ := HP.out.two.b.ten
              go_upto_region 19 with (go_at_call 17; refine (O5.out _ _ _ _ _ (HF.out.under _ _ HK.out HP.out.two.below) HQ.out.2 HP.out.lo).mono ?_; rintro r w5 ⟨rfl, hb5⟩; have HP := Lib.hid (HP.out.step hb5); clear hb5)
              go_upto_region 20 with (go_at_call 12; refine (O4.out _ (HF.out.under _ _ HK.out HP.out.two.below)).mono ?_; rintro r w4 ⟨A4, c4', P4, d4', rfl, hl4, hb4⟩)
              have HB := Lib.hid (box_new w4 25 (objC (blobO S) A4 c4' P4 d4'))
              have HP := Lib.hid ((HP.out.step hb4).alloc (.cells (objC (blobO S) A4 c4' P4 d4') 25))
              generalize w4.alloc (.cells (objC (blobO S) A4 c4' P4 d4') 25) = W4 at *
              generalize w4.heap.size = g4 at *
              clear hl4 hb4
              have b1 : W4.cell? ⟨g4, 1, none⟩ = some (.string S) := HB.out.ten.2.1
              obtain ⟨c0, c1, c2, c3, c4, c5, c6, c7, c8, c9⟩ := HP.out.two.a.ten
              obtain ⟨d0, d1, d2, d3, d4, d5, d6, d7, d8, d9⟩ := HP.out.two.b.ten
              go_upto_region 23 with (first | (go_at_call 10; refine (O6.out _ (HF.out.under _ _ HK.out HP.out.two.below) HP.out.lp).mono ?_; rintro r w5 ⟨rfl, hb5⟩; have HP := Lib.hid (HP.out.step hb5); obtain ⟨c0, c1, c2, c3, c4, c5, c6, c7, c8, c9⟩ := HP.out.two.a.ten; obtain ⟨d0, d1, d2, d3, d4, d5, d6, d7, d8, d9⟩ := HP.out.two.b.ten; clear hb5))
              rcases hcase with z1 | ⟨z1, z2⟩ | ⟨z1, z2, z3⟩
              · go_wp2_with fail
                go_ret
                exact ⟨rfl, HP.out.two.below⟩
              · go_wp2_with fail
                go_ret
                exact ⟨rfl, HP.out.two.below⟩
              · have z4 : (sm == sm) = true := by simp
                go_wp2_with (first | (go_at_call 17; refine (O7.out _ (HF.out.under _ _ HK.out HP.out.two.below) HP.out.lo HP.out.lp).mono ?_; rintro r w5 ⟨rfl, hb5⟩; have HP := Lib.hid (HP.out.step hb5); obtain ⟨c0, c1, c2, c3, c4, c5, c6, c7, c8, c9⟩ := HP.out.two.a.ten; obtain ⟨d0, d1, d2, d3, d4, d5, d6, d7, d8, d9⟩ := HP.out.two.b.ten; clear hb5))
                go_ret
                first | exact ⟨rfl, HP.out.two.below⟩ | exact ⟨ret_bool z4, HP.out.two.below⟩
end Go.Proofs.YtapjgdhdgpakhaaGreatDoor.Hj
