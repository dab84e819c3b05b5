/-
  Layer 10: names are made of any bytes of their space's length (IdentMakes), by what the program's ident is to answer.
-/
import Derived.Test.YtmbbigmnliiadaaDoorIh
import Derived.Test.YtmbbigmnliiadaaDoorK1
namespace Go.Proofs.YtmbbigmnliiadaaDoor.Hi
open Go.RowKit Hg Hs Hd
set_option linter.unusedVariables false

/-- three names, in blocks of their own -/
structure Trio (w W : World) (g1 g2 g3 t1 t2 t3 : Nat) (a b c : ByteArray) : Prop where
  a : NmAt W g1 t1 a
  b : NmAt W g2 t2 b
  c : NmAt W g3 t3 c
  below : Below w.heap.size w W
theorem Trio.step {w W W' : World} {g1 g2 g3 t1 t2 t3 : Nat} {a b c : ByteArray} (h : Trio w W g1 g2 g3 t1 t2 t3 a b c) (hb : Below W.heap.size W W') : Trio w W' g1 g2 g3 t1 t2 t3 a b c :=
  ⟨h.a.step hb, h.b.step hb, h.c.step hb, h.below.trans (hb.mono h.below.size)⟩
/-- the name that is made of bytes, and the error -/
def mkS (k : Nat) (b : ByteArray) : ByteArray := if b.size = k then b else ⟨#[]⟩
def mkE (k : Nat) (b : ByteArray) : Int := if b.size = k then 0 else 3
theorem mk_val (k : Nat) (b : ByteArray) : (if b.size = k then Value.tuple #[.agg #[.string b], .int .i64 0] else .tuple #[.agg #[.string ⟨#[]⟩], .int .i64 3]) = .tuple #[.agg #[.string (mkS k b)], .int .i64 (mkE k b)] := by
  unfold mkS mkE
  split <;> rfl
theorem mk_yes {k : Nat} {b : ByteArray} (h : b.size = k) : mkS k b = b ∧ mkE k b = 0 := ⟨if_pos h, if_pos h⟩
theorem mk_no {k : Nat} {b : ByteArray} (h : ¬ b.size = k) : mkS k b = ⟨#[]⟩ ∧ mkE k b = 3 := ⟨if_neg h, if_neg h⟩
set_option maxHeartbeats 4000000 in
set_option maxRecDepth 100000 in
theorem makes_any (F : Faces) (a b : ByteArray) (w : World) (hK : Kt w) (ha : a.size ≤ maxLen) (hb : b.size ≤ maxLen) : Calls Tryd.prog 3 #[.string a, .string b] w fun e w' => e = .returned (.bool true) ∧ Below w.heap.size w w' := by
  have HF := Lib.hid F
  have HA := Lib.hid (awake10_any F w hK)
  clear hK F
  go_enter Tryd.func3, Tryd.ntmps3
  go_upto_region 3 with (go_at_call 6; refine HA.out.mono ?_; rintro r w1 ⟨rfl, hb1⟩)
  by_cases h1 : 1000 < a.size
  · have h1i : (1000 : Int) < a.size := by omega
    go_wp2
    go_ret
    exact ⟨rfl, hb1⟩
  · have h1i : ¬ (1000 : Int) < a.size := by omega
    by_cases h2 : 1000 < b.size
    · have h2i : (1000 : Int) < b.size := by omega
      go_wp2
      go_ret
      exact ⟨rfl, hb1⟩
    · have h2i : ¬ (1000 : Int) < b.size := by omega
      have O1 := Lib.hid (fun W => HF.out.makeW a W (by omega))
      have O2 := Lib.hid (fun W => HF.out.makeN a W (by omega))
      have O3 := Lib.hid (fun W => HF.out.makeW b W (by omega))
      rw [mk_val] at O1 O2 O3
      have HY := Lib.hid (fun x W => HF.out.bytesW x W)
      have HZ := Lib.hid (fun x W => HF.out.bytesN x W)
      have HO := Lib.hid (fun x W => HF.out.zeroW x W)
      have e1 : a.size = 32 → mkS 32 a = a ∧ mkE 32 a = 0 := mk_yes
      have n1 : ¬ a.size = 32 → mkS 32 a = ⟨#[]⟩ ∧ mkE 32 a = 3 := mk_no
      have e2 : a.size = 20 → mkS 20 a = a ∧ mkE 20 a = 0 := mk_yes
      have n2 : ¬ a.size = 20 → mkS 20 a = ⟨#[]⟩ ∧ mkE 20 a = 3 := mk_no
      have e3 : b.size = 32 → mkS 32 b = b ∧ mkE 32 b = 0 := mk_yes
      have n3 : ¬ b.size = 32 → mkS 32 b = ⟨#[]⟩ ∧ mkE 32 b = 3 := mk_no
      generalize mkS 32 a = xw at *
      generalize mkE 32 a = ew at *
      generalize mkS 20 a = xn at *
      generalize mkE 20 a = en at *
      generalize mkS 32 b = xv at *
      generalize mkE 32 b = ev at *
      have HC := Lib.hid (And.intro e1 (And.intro n1 (And.intro e2 (And.intro n2 (And.intro e3 n3)))))
      have HB1 := Lib.hid hb1
      clear e1 n1 e2 n2 e3 n3 hb1 h1 h2
      go_upto_region 6 with (go_at_call 7; refine (O1.out _).mono ?_; rintro r w2 ⟨rfl, hb2⟩)
      have HS2 := Lib.hid (And.intro (nm_new w2 26 xw) ((HB1.out.trans (hb2.mono HB1.out.size)).alloc (Nat.le_trans HB1.out.size hb2.size) (.cells #[.string xw] 26)))
      generalize w2.alloc (.cells #[.string xw] 26) = W2 at *
      generalize w2.heap.size = g1 at *
      clear hb2
      go_upto_region 7 with (go_at_call 8; refine (O2.out _).mono ?_; rintro r w3 ⟨rfl, hb3⟩)
      have HS3 := Lib.hid (And.intro ((HS2.out.1.step hb3).alloc (.cells #[.string xn] 35)) (And.intro (nm_new w3 35 xn) ((HS2.out.2.trans (hb3.mono HS2.out.2.size)).alloc (Nat.le_trans HS2.out.2.size hb3.size) (.cells #[.string xn] 35))))
      generalize w3.alloc (.cells #[.string xn] 35) = W3 at *
      generalize w3.heap.size = g2 at *
      clear hb3
      go_upto_region 8 with (go_at_call 7; refine (O3.out _).mono ?_; rintro r w4 ⟨rfl, hb4⟩)
      have HP := Lib.hid (show Trio w (w4.alloc (.cells #[.string xv] 26)) g1 g2 w4.heap.size 26 35 26 xw xn xv from
        ⟨(HS3.out.1.step hb4).alloc _, (HS3.out.2.1.step hb4).alloc _, nm_new w4 26 xv, (HS3.out.2.2.trans (hb4.mono HS3.out.2.2.size)).alloc (Nat.le_trans HS3.out.2.2.size hb4.size) _⟩)
      generalize w4.alloc (.cells #[.string xv] 26) = W4 at *
      generalize w4.heap.size = g3 at *
      clear hb4 HS3 HS2 O1 O2 O3
      have c1 := HP.out.a.cell
      have c2 := HP.out.b.cell
      have c3 := HP.out.c.cell
      have he0 : ((⟨#[]⟩ : ByteArray).size == 0) = true := rfl
      have hq := eql_nm
      by_cases ha2 : a.size = 32
      · obtain ⟨e1, rfl⟩ := HC.out.1 ha2
        obtain ⟨n2, rfl⟩ := HC.out.2.2.2.1 (by omega)
        have s1 : ((a.size : Int) == 32) = true := by simp [ha2]
        have s2 : ((a.size : Int) == 20) = false := by simp [ha2]
        have z1 : (a.size == 0) = false := by simp [ha2]
        have q1 : (a.toList == a.toList) = true := by simp
        rw [e1] at HP c1
        by_cases hb2 : b.size = 32
        · obtain ⟨e3, rfl⟩ := HC.out.2.2.2.2.1 hb2
          rw [e3] at HP c3
          clear HC e1 n2 e3
          go_wp2_with (first
              | (go_at_call 9; refine (HY.out _ _).mono ?_; rintro r w5 ⟨rfl, hb5⟩; have HP := Lib.hid (HP.out.step hb5); have c1 := HP.out.a.cell; have c2 := HP.out.b.cell; have c3 := HP.out.c.cell; clear hb5)
              | (go_at_call 11; refine (HZ.out _ _).mono ?_; rintro r w5 ⟨rfl, hb5⟩; have HP := Lib.hid (HP.out.step hb5); have c1 := HP.out.a.cell; have c2 := HP.out.b.cell; have c3 := HP.out.c.cell; clear hb5)
              | (go_at_call 10; refine (HO.out _ _).mono ?_; rintro r w5 ⟨rfl, hb5⟩; have HP := Lib.hid (HP.out.step hb5); have c1 := HP.out.a.cell; have c2 := HP.out.b.cell; have c3 := HP.out.c.cell; clear hb5))
          go_ret
          exact ⟨rfl, HP.out.below⟩
        · obtain ⟨e3, rfl⟩ := HC.out.2.2.2.2.2 hb2
          clear HC e1 n2 e3
          go_wp2_with (first
              | (go_at_call 9; refine (HY.out _ _).mono ?_; rintro r w5 ⟨rfl, hb5⟩; have HP := Lib.hid (HP.out.step hb5); have c1 := HP.out.a.cell; have c2 := HP.out.b.cell; have c3 := HP.out.c.cell; clear hb5)
              | (go_at_call 11; refine (HZ.out _ _).mono ?_; rintro r w5 ⟨rfl, hb5⟩; have HP := Lib.hid (HP.out.step hb5); have c1 := HP.out.a.cell; have c2 := HP.out.b.cell; have c3 := HP.out.c.cell; clear hb5)
              | (go_at_call 10; refine (HO.out _ _).mono ?_; rintro r w5 ⟨rfl, hb5⟩; have HP := Lib.hid (HP.out.step hb5); have c1 := HP.out.a.cell; have c2 := HP.out.b.cell; have c3 := HP.out.c.cell; clear hb5))
          go_ret
          exact ⟨rfl, HP.out.below⟩
      · obtain ⟨n1, rfl⟩ := HC.out.2.1 ha2
        have s1 : ((a.size : Int) == 32) = false := beq_eq_false_iff_ne.2 (by omega)
        have q1 : (a.toList == a.toList) = true := by simp
        rw [n1] at HP c1
        by_cases ha3 : a.size = 20
        · obtain ⟨e2, rfl⟩ := HC.out.2.2.1 ha3
          rw [e2] at HP c2
          have s2 : ((a.size : Int) == 20) = true := by simp [ha3]
          clear HC n1 e2
          go_wp2_with (first
              | (go_at_call 9; refine (HY.out _ _).mono ?_; rintro r w5 ⟨rfl, hb5⟩; have HP := Lib.hid (HP.out.step hb5); have c1 := HP.out.a.cell; have c2 := HP.out.b.cell; have c3 := HP.out.c.cell; clear hb5)
              | (go_at_call 11; refine (HZ.out _ _).mono ?_; rintro r w5 ⟨rfl, hb5⟩; have HP := Lib.hid (HP.out.step hb5); have c1 := HP.out.a.cell; have c2 := HP.out.b.cell; have c3 := HP.out.c.cell; clear hb5)
              | (go_at_call 10; refine (HO.out _ _).mono ?_; rintro r w5 ⟨rfl, hb5⟩; have HP := Lib.hid (HP.out.step hb5); have c1 := HP.out.a.cell; have c2 := HP.out.b.cell; have c3 := HP.out.c.cell; clear hb5))
          go_ret
          exact ⟨rfl, HP.out.below⟩
        · obtain ⟨n2, rfl⟩ := HC.out.2.2.2.1 ha3
          have s2 : ((a.size : Int) == 20) = false := beq_eq_false_iff_ne.2 (by omega)
          clear HC n1 n2
          go_wp2_with (first
              | (go_at_call 9; refine (HY.out _ _).mono ?_; rintro r w5 ⟨rfl, hb5⟩; have HP := Lib.hid (HP.out.step hb5); have c1 := HP.out.a.cell; have c2 := HP.out.b.cell; have c3 := HP.out.c.cell; clear hb5)
              | (go_at_call 11; refine (HZ.out _ _).mono ?_; rintro r w5 ⟨rfl, hb5⟩; have HP := Lib.hid (HP.out.step hb5); have c1 := HP.out.a.cell; have c2 := HP.out.b.cell; have c3 := HP.out.c.cell; clear hb5)
              | (go_at_call 10; refine (HO.out _ _).mono ?_; rintro r w5 ⟨rfl, hb5⟩; have HP := Lib.hid (HP.out.step hb5); have c1 := HP.out.a.cell; have c2 := HP.out.b.cell; have c3 := HP.out.c.cell; clear hb5))
          go_ret
          exact ⟨rfl, HP.out.below⟩
end Go.Proofs.YtmbbigmnliiadaaDoor.Hi
