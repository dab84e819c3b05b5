/-
  Layer 10: words, kinds, rows, names are the document's (IdentTells), by what the program's ident is to answer.
-/
import Derived.Test.YtmbbigmnliiadaaGreatDoorIj
import Derived.Test.YtmbbigmnliiadaaGreatDoorIb
import Derived.Test.YtmbbigmnliiadaaGreatDoorB1
namespace Go.Proofs.YtmbbigmnliiadaaGreatDoor.Hi
open Go.RowKit Hg Hs Hd
set_option linter.unusedVariables false

theorem id_size (sp k : Int) (c : ByteArray) : (Idf.idF sp k c).1.size ≤ 32 := by
  unfold Idf.idF
  split
  · exact Nat.zero_le _
  · split
    · exact Nat.zero_le _
    · split
      · exact Nat.zero_le _
      · split
        · show (Idf.wide _).size ≤ 32
          rw [wide_size]; omega
        · split
          · exact Nat.zero_le _
          · show (Idf.narrow _).size ≤ 32
            rw [narrow_size]; omega
/-- two names, in blocks of their own -/
structure Pair (w W : World) (g1 g2 t1 t2 : Nat) (a b : ByteArray) : Prop where
  a : NmAt W g1 t1 a
  b : NmAt W g2 t2 b
  below : Below w.heap.size w W
theorem Pair.step {w W W' : World} {g1 g2 t1 t2 : Nat} {a b : ByteArray} (h : Pair w W g1 g2 t1 t2 a b) (hb : Below W.heap.size W W') : Pair w W' g1 g2 t1 t2 a b :=
  ⟨h.a.step hb, h.b.step hb, h.below.trans (hb.mono h.below.size)⟩

set_option maxHeartbeats 8000000 in
set_option maxRecDepth 100000 in
theorem tells_any (F : Faces) (k sp : Int) (x c : ByteArray) (w : World) (hK : Kt w) : Calls Tryz.prog 3 #[.int .i64 k, .int .i64 sp, .string x, .string c] w fun e w' => e = .returned (.bool true) ∧ Below w.heap.size w w' := by
  have HF := Lib.hid F
  have HK := Lib.hid hK
  have HA := Lib.hid (awake10_any F w hK)
  clear hK F
  go_enter Tryz.func3, Tryz.ntmps3
  go_upto_region 3 with (go_at_call 4; refine HA.out.mono ?_; rintro r w1 ⟨rfl, hb1⟩)
  by_cases h1 : 1000 < c.size
  · have h1i : (1000 : Int) < c.size := by omega
    go_wp2
    go_ret
    exact ⟨rfl, hb1⟩
  · have h1i : ¬ (1000 : Int) < c.size := by omega
    by_cases h2 : 1000 < x.size
    · have h2i : (1000 : Int) < x.size := by omega
      go_wp2
      go_ret
      exact ⟨rfl, hb1⟩
    · have h2i : ¬ (1000 : Int) < x.size := by omega
      have O0 := Lib.hid (fun W h => HF.out.idn sp k c W h (by omega))
      have O2 := Lib.hid (fun W h => HF.out.ofW k c W h (by omega))
      have O1 := Lib.hid (fun W h => HF.out.ofN k c W h (by omega))
      have D0 := Lib.hid (fun W => show Calls Tryz.prog 6 #[.int .i64 sp, .int .i64 k, .string c] W fun e w' => e = .returned (.tuple #[.string (Idf.idF sp k c).1, .int .i64 (Idf.idF sp k c).2]) ∧ Below W.heap.size W w' from rid_any sp k c W (by omega))
      have D2 := Lib.hid (fun W => show Calls Tryz.prog 6 #[.int .i64 2, .int .i64 k, .string c] W fun e w' => e = .returned (.tuple #[.string (Idf.idF 2 k c).1, .int .i64 (Idf.idF 2 k c).2]) ∧ Below W.heap.size W w' from rid_any 2 k c W (by omega))
      have D1 := Lib.hid (fun W => show Calls Tryz.prog 6 #[.int .i64 1, .int .i64 k, .string c] W fun e w' => e = .returned (.tuple #[.string (Idf.idF 1 k c).1, .int .i64 (Idf.idF 1 k c).2]) ∧ Below W.heap.size W w' from rid_any 1 k c W (by omega))
      have NW := Lib.hid (fun W => HF.out.numW W)
      have NN := Lib.hid (fun W => HF.out.numN W)
      have KW := Lib.hid (fun W => HF.out.word k W)
      have DW := Lib.hid (fun W => show Calls Tryz.prog 12 #[.int .i64 k] W fun e w' => e = .returned (.string (Idf.word k)) ∧ Below W.heap.size W w' from (rword_any k W).mono fun e w' h => ⟨h.1, by rw [h.2]; exact Below.refl _ _⟩)
      have KK := Lib.hid (fun W => HF.out.kind x W (by omega))
      have DK := Lib.hid (fun W => show Calls Tryz.prog 14 #[.string x] W fun e w' => e = .returned (.int .i64 (Idf.kindF x)) ∧ Below W.heap.size W w' from (rkind_any x W).mono fun e w' h => ⟨h.1, by rw [h.2]; exact Below.refl _ _⟩)
      have RR := Lib.hid (fun W h => HF.out.row k c W h (by omega))
      have DR := Lib.hid (fun W => rrow_any k c W (by omega))
      have hz := id_size 1 k c
      have GN := Lib.hid (fun W => HF.out.digitsN (Idf.idF 1 k c).1 W (by omega))
      have GD := Lib.hid (fun W => rDigits_any (Idf.idF 1 k c).1 W (by omega))
      have BW := Lib.hid (fun W => HF.out.bytesW (Idf.idF 2 k c).1 W)
      have BN := Lib.hid (fun W => HF.out.bytesN (Idf.idF 1 k c).1 W)
      generalize str (M.digs (bl (Idf.idF 1 k c).1)) = dg at *
      generalize (Idf.idF 1 k c).1 = x1 at *
      generalize (Idf.idF 1 k c).2 = e1 at *
      generalize (Idf.idF 2 k c).1 = x2 at *
      generalize (Idf.idF 2 k c).2 = e2 at *
      generalize (Idf.idF sp k c).1 = x0 at *
      generalize (Idf.idF sp k c).2 = e0 at *
      generalize Idf.row k c = rw0 at *
      generalize Idf.word k = wd at *
      generalize Idf.kindF x = kx at *
      have q1 := str_beq (rfl : x1 = x1)
      have q2 := str_beq (rfl : x2 = x2)
      have q0 := str_beq (rfl : x0 = x0)
      have q3 := str_beq (rfl : rw0 = rw0)
      have q4 := str_beq (rfl : wd = wd)
      have q5 := str_beq (rfl : dg = dg)
      have HB1 := Lib.hid hb1
      clear hb1 h1 h2 hz
      go_upto_region 7 with (first
        | (go_at_call 5; refine (O0.out _ (HK.out.under HB1.out)).mono ?_; rintro r w2 ⟨rfl, hb2⟩; have HB1 := Lib.hid (HB1.out.trans (hb2.mono HB1.out.size)); clear hb2)
        | (go_at_call 6; with_reducible refine (D0.out _).mono ?_; rintro r w2 ⟨rfl, hb2⟩; have HB1 := Lib.hid (HB1.out.trans (hb2.mono HB1.out.size)); clear hb2))
      go_upto_region 8 with (go_at_call 7; refine (O2.out _ (HK.out.under HB1.out)).mono ?_; rintro r w3 ⟨rfl, hb3⟩)
      have HS2 := Lib.hid (And.intro (nm_new w3 31 x2) ((HB1.out.trans (hb3.mono HB1.out.size)).alloc (Nat.le_trans HB1.out.size hb3.size) (.cells #[.string x2] 31)))
      generalize w3.alloc (.cells #[.string x2] 31) = W3 at *
      generalize w3.heap.size = g1 at *
      clear hb3
      go_upto_region 9 with (go_at_call 6; with_reducible refine (D2.out _).mono ?_; rintro r w4 ⟨rfl, hb4⟩; have HS2 := Lib.hid (And.intro (HS2.out.1.step hb4) (HS2.out.2.trans (hb4.mono HS2.out.2.size))); clear hb4)
      go_upto_region 10 with (go_at_call 8; refine (O1.out _ (HK.out.under HS2.out.2)).mono ?_; rintro r w6 ⟨rfl, hb6⟩)
      have HP := Lib.hid (show Pair w (w6.alloc (.cells #[.string x1] 39)) g1 w6.heap.size 31 39 x2 x1 from
        ⟨(HS2.out.1.step hb6).alloc _, nm_new w6 39 x1, (HS2.out.2.trans (hb6.mono HS2.out.2.size)).alloc (Nat.le_trans HS2.out.2.size hb6.size) _⟩)
      generalize w6.alloc (.cells #[.string x1] 39) = W6 at *
      generalize w6.heap.size = g2 at *
      clear hb6 HS2
      have c1 := HP.out.a.cell
      have c2 := HP.out.b.cell
      go_upto_region 11 with (go_at_call 6; with_reducible refine (D1.out _).mono ?_; rintro r w5 ⟨rfl, hb5⟩; have HP := Lib.hid (HP.out.step hb5); have c1 := HP.out.a.cell; have c2 := HP.out.b.cell; clear hb5)
      go_wp2_with (first
        | (go_at_call 9; refine (NW.out _).mono ?_; rintro r w5 ⟨rfl, hb5⟩; have HP := Lib.hid (HP.out.step hb5); have c1 := HP.out.a.cell; have c2 := HP.out.b.cell; clear hb5)
        | (go_at_call 10; refine (NN.out _).mono ?_; rintro r w5 ⟨rfl, hb5⟩; have HP := Lib.hid (HP.out.step hb5); have c1 := HP.out.a.cell; have c2 := HP.out.b.cell; clear hb5)
        | (go_at_call 11; refine (KW.out _).mono ?_; rintro r w5 ⟨rfl, hb5⟩; have HP := Lib.hid (HP.out.step hb5); have c1 := HP.out.a.cell; have c2 := HP.out.b.cell; clear hb5)
        | (go_at_call 13; refine (KK.out _).mono ?_; rintro r w5 ⟨rfl, hb5⟩; have HP := Lib.hid (HP.out.step hb5); have c1 := HP.out.a.cell; have c2 := HP.out.b.cell; clear hb5)
        | (go_at_call 14; refine (DK.out _).mono ?_; rintro r w5 ⟨rfl, hb5⟩; have HP := Lib.hid (HP.out.step hb5); have c1 := HP.out.a.cell; have c2 := HP.out.b.cell; clear hb5)
        | (go_at_call 15; refine (RR.out _ (HK.out.under HP.out.below)).mono ?_; rintro r w5 ⟨rfl, hb5⟩; have HP := Lib.hid (HP.out.step hb5); have c1 := HP.out.a.cell; have c2 := HP.out.b.cell; clear hb5)
        | (go_at_call 16; refine (DR.out _).mono ?_; rintro r w5 ⟨rfl, hb5⟩; have HP := Lib.hid (HP.out.step hb5); have c1 := HP.out.a.cell; have c2 := HP.out.b.cell; clear hb5)
        | (go_at_call 17; refine (BW.out _).mono ?_; rintro r w5 ⟨rfl, hb5⟩; have HP := Lib.hid (HP.out.step hb5); have c1 := HP.out.a.cell; have c2 := HP.out.b.cell; clear hb5)
        | (go_at_call 18; refine (BN.out _).mono ?_; rintro r w5 ⟨rfl, hb5⟩; have HP := Lib.hid (HP.out.step hb5); have c1 := HP.out.a.cell; have c2 := HP.out.b.cell; clear hb5)
        | (go_at_call 19; refine (GN.out _).mono ?_; rintro r w5 ⟨rfl, hb5⟩; have HP := Lib.hid (HP.out.step hb5); have c1 := HP.out.a.cell; have c2 := HP.out.b.cell; clear hb5)
        | (go_at_call 20; refine (GD.out _).mono ?_; rintro r w5 ⟨rfl, hb5⟩; have HP := Lib.hid (HP.out.step hb5); have c1 := HP.out.a.cell; have c2 := HP.out.b.cell; clear hb5)
        | (go_at_call 12; refine (DW.out _).mono ?_; rintro r w5 ⟨rfl, hb5⟩; have HP := Lib.hid (HP.out.step hb5); have c1 := HP.out.a.cell; have c2 := HP.out.b.cell; clear hb5))
      go_ret
      exact ⟨rfl, HP.out.below⟩
end Go.Proofs.YtmbbigmnliiadaaGreatDoor.Hi
