/-
  A token that tells bytes again; any token (layer 8).
-/
import Derived.Test.YtepndjlgjaeonaaGd
import Derived.Test.YtepndjlgjaeonaaSt
import Derived.BigRegion
import Derived.Deep.RegionLaw
import Derived.Laws.BitsAllLaws
namespace Go.Proofs.Ytepndjlgjaeonaa.Hg
open Go.RowKit Hw
set_option linter.unusedVariables false

theorem or_bytes {x y : Nat} (hx : x < 256) (hy : y < 256) : bits .or .i64 ((x : Int) * 256) (y : Int) = (x : Int) * 256 + y := by
  show IntKind.i64.wrap ((BitVec.ofInt 64 (((x * 256 : Nat) : Int)) ||| BitVec.ofInt 64 (y : Int)).toNat : Int) = _
  have e : x * 256 ||| y = x * 256 + y := by
    have := Nat.two_pow_add_eq_or_of_lt (b := y) (i := 8) (by omega) x
    rw [show x * 256 = 2 ^ 8 * x by omega, ← this]
  rw [BitVec.toNat_or, ofInt_u64 (x * 256) (by omega), ofInt_u64 y (by omega), e, IntWalk.i64_in _ (by omega)]
  omega

/-- the element that is told again, one more: as one step of the region -/
theorem step_app_row {B : Nat} {v : Value} {l : List UInt8} {w : World} {ops : Array Oper} {o : Oper} {a : Act} {Q : Exit → Act → World → Prop} {K : Act → World → Prop} {E : Prop} (hgd : o.guard = none) (sl x : Operand)
    (ho : o.op = .call { callee := .builtin .append, args := #[sl, x], argTypes := #[33, 33] }) (hs : a.eval sl = v) (h : Own w B v l) (hB : B ≤ w.heap.size) (m : List UInt8) (g c n : Nat) (hn : n = m.length) (hx : a.eval x = .slice (some ⟨g, 0, none⟩) n c)
    (hg : w.heap[g]? = some (.cells (m.map fun c => Value.int .u8 c.toNat).toArray 5)) (hl : l.length + m.length ≤ 100000000)
    (hK : ∀ v' w', Own w' B v' (l ++ m) → Below B w w' → K (a.put o.dst v') w') : if Region.wanted o (yielded ops a.tmps) = true then Oper.wp Try.prog o a w K Q else E := by
  have hw : Region.wanted o (yielded ops a.tmps) = true := by simp [Region.wanted, hgd]
  rw [if_pos hw]
  exact wp_app_row sl x ho hs h hB m g c n hn hx hg hl hK

set_option maxHeartbeats 4000000 in
set_option maxRecDepth 100000 in
theorem again_any (w : World) (b M : Nat) (t : List UInt8) (h : TxAt w b M t) (s : ByteArray) (h0 : 0 < s.size) (hc : 128 ≤ (s[0]'h0).toNat) (hM : M < 9223372036854775808) (ht : t.length ≤ 20000000) (hs : s.size ≤ 20000000) :
    Calls Try.prog 19 #[.pointer (some ⟨b, 0, none⟩), .string s] w fun r w' => r = .returned (tokR M t (bl s)) ∧ (Sq.code M t (bl s) = 0 → TxAt w' b M (Sq.tells t (bl s))) ∧ Below b w w' := by
  have hlb := h.lt
  have hg0 : (((bl s)).getD 0 0).toNat = s[0].toNat := by rw [bl_getD s 0 h0]
  have hlen := bl_length s
  obtain ⟨n, hn⟩ : ∃ n, s[0].toNat = n := ⟨_, rfl⟩
  have hni : (s[0].toNat : Int) = n := by rw [hn]
  rw [hn] at hg0 hc
  have hn256 : n < 256 := by rw [← hn]; exact s[0].toNat_lt
  have HG := Lib.hid hg0
  have HL := Lib.hid hlen
  have HTX := Lib.hid h
  have h0i : (0 : Int) < s.size := by omega
  clear hlen hg0 hn h
  by_cases hA : s.size < 3
  · have hA1 : (s.size : Int) < 3 := by omega
    have HC := Lib.hid (Sq.agShort (M := M) (t := t) (s := bl s) HG.out hc (by rw [HL.out]; omega))
    clear hA
    go_enter Try.func19, Try.ntmps19
    go_wp2
    go_ret2
    exact ⟨tok_bad HC.out (by decide), fun hz => (by rw [HC.out] at hz; exact absurd hz (by decide)), Below.refl _ _⟩
  · have hA1 : ¬ (s.size : Int) < 3 := by omega
    have hx1 : 1 < s.size := by omega
    have hx2 : 2 < s.size := by omega
    have hk1i : (1 : Int) < s.size := by omega
    have hk2i : (2 : Int) < s.size := by omega
    have hd : Sq.dist (bl s) = s[1].toNat * 256 + s[2].toNat := by unfold Sq.dist; rw [bl_getD s 1 hx1, bl_getD s 2 hx2]
    have hy1 : s[1].toNat < 256 := s[1].toNat_lt
    have hy2 : s[2].toNat < 256 := s[2].toNat_lt
    obtain ⟨x, hx⟩ : ∃ x, s[1].toNat = x := ⟨_, rfl⟩
    obtain ⟨y, hy⟩ : ∃ y, s[2].toNat = y := ⟨_, rfl⟩
    have hxi : (s[1].toNat : Int) = x := by rw [hx]
    have hyi : (s[2].toNat : Int) = y := by rw [hy]
    rw [hx, hy] at hd
    rw [hx] at hy1
    rw [hy] at hy2
    have hw4 : IntKind.i64.wrap ((x : Int) * 256) = (x : Int) * 256 := IntWalk.i64_in _ (by omega)
    have hw5 : IntKind.i64.wrap (x : Int) = x := IntWalk.i64_in _ (by omega)
    have hw6 : IntKind.i64.wrap (y : Int) = y := IntWalk.i64_in _ (by omega)
    obtain ⟨F, hF⟩ : ∃ F, x * 256 + y = F := ⟨_, rfl⟩
    have hw7 : bits .or .i64 ((x : Int) * 256) (y : Int) = F := (or_bytes hy1 hy2).trans (by omega)
    rw [hF] at hd
    have hF2 : F < 65536 := by omega
    have HD := Lib.hid hd
    clear hx hy hd hF
    go_enter Try.func19, Try.ntmps19
    go_wp2_with fail
    refine wp_region_still_lit (by kernel_rfl) (by kernel_rfl) ?_
    change wpStill _ _ (World.drew _) (fun a' => Exit.then _ _ _ a' (World.drew _)) _ _
    iterate 9 ((with_reducible refine wpStill_step ?_); intro K hK; go_simp; refine hK _ ?_; clear hK K)
    refine wpStill_nil ?_
    clear hw4 hw5 hw6 hw7 hxi hyi hx1 hx2 hk1i hk2i
    have HT := Lib.hid (And.intro (TxAt.drew HTX.out) ((Below.refl b w).drew))
    have hlw : b < w.drew.heap.size := hlb
    generalize w.drew = w1 at *
    by_cases hF0 : F = 0
    · have HC := Lib.hid (Sq.agForm (M := M) (t := t) (s := bl s) HG.out hc (by rw [HL.out]; omega) (by rw [HD.out]; exact .inl hF0))
      subst hF0
      go_wp2
      go_ret2
      exact ⟨tok_bad HC.out (by decide), fun hz => (by rw [HC.out] at hz; exact absurd hz (by decide)), HT.out.2⟩
    · obtain ⟨A, cp, hb, ho⟩ := HT.out.1
      have c0 := cell_of_cells hb 0
      clear hb ho
      have hF1 : decide ((F : Int) = 0) = false := decide_eq_false (by omega)
      have hF3 : ((F : Int) == 0) = false := beq_eq_false_iff_ne.2 (by omega)
      by_cases hFt : t.length < F
      · have HC := Lib.hid (Sq.agForm (M := M) (t := t) (s := bl s) HG.out hc (by rw [HL.out]; omega) (by rw [HD.out]; exact .inr hFt))
        have hFt1 : (t.length : Int) < F := by omega
        clear hF0 hFt
        go_wp2
        go_ret2
        exact ⟨tok_bad HC.out (by decide), fun hz => (by rw [HC.out] at hz; exact absurd hz (by decide)), HT.out.2⟩
      · have hFt1 : ¬ (t.length : Int) < F := by omega
        have hno : ¬ (Sq.dist (bl s) = 0 ∨ t.length < Sq.dist (bl s)) := by rw [HD.out]; omega
        obtain ⟨k, hk⟩ : ∃ k, n = k + 124 := ⟨n - 124, by omega⟩
        have hk1 : IntKind.i64.wrap (n : Int) = n := IntWalk.i64_in _ (by omega)
        have hk2 : IntKind.i64.wrap ((n : Int) - 128) = (n : Int) - 128 := IntWalk.i64_in _ (by omega)
        have hk3 : IntKind.i64.wrap ((n : Int) - 128 + 4) = k := (IntWalk.i64_in _ (by omega)).trans (by omega)
        have hk131 : k ≤ 131 := by omega
        have hm : ∀ w9 : World, TxAt w9 b M t → _ := fun w9 h9 => holds_any w9 b M t h9 (k : Int) hM (by omega)
        have HH := Lib.hid hm
        have HFF := Lib.hid (And.intro hF0 hFt)
        clear hm
        by_cases hL : M < t.length + k
        · have HC := Lib.hid (Sq.agLimit (M := M) (t := t) (s := bl s) HG.out hc (by rw [HL.out]; omega) hno (by omega))
          have hL1 : decide ((k : Int) ≤ (M : Int) - t.length) = false := decide_eq_false (by omega)
          rw [hL1] at HH
          clear hL hno hF0 hFt hk
          go_wp2_with (go_at_call 21; refine (HH.out _ HT.out.1).mono ?_; rintro e w2 ⟨rfl, rfl⟩)
          go_ret2
          exact ⟨tok_bad HC.out (by decide), fun hz => (by rw [HC.out] at hz; exact absurd hz (by decide)), HT.out.2.drew⟩
        · have HC := Lib.hid (And.intro (Sq.agGood (M := M) (t := t) (s := bl s) HG.out hc (by rw [HL.out]; omega) hno (by omega)) (And.intro (show ((Sq.size (bl s) : Nat) : Int) = 3 by rw [Sq.agSize HG.out hc]; rfl) (show Sq.tells t (bl s) = Sq.agn k F t by rw [Sq.agTells HG.out hc, HD.out, hk]; rfl)))
          have hL1 : decide ((k : Int) ≤ (M : Int) - t.length) = true := decide_eq_true (by omega)
          rw [hL1] at HH
          clear hL hno hF0 hFt hk
          go_wp2_with (go_at_call 21; refine (HH.out _ HT.out.1).mono ?_; rintro e w2 ⟨rfl, hw2⟩; have HT2 := Lib.hid (show TxAt w2 b M t ∧ Below b w w2 from by rw [hw2]; exact ⟨HT.out.1.drew, HT.out.2.drew⟩); clear hw2)
          clear c0 hk1 hk2 hk3
          go_loopg [40] k (fun gk i wx => ∃ j : Nat, j ≤ k ∧ gk = k - j ∧ i = .int .i64 j ∧ TxAt wx b M (Sq.agn j F t) ∧ Below b w wx)
          case atStart => exact ⟨0, Nat.zero_le _, rfl, rfl, HT2.out.1, HT2.out.2⟩
          case round =>
            obtain ⟨j, hj, rfl, rfl, htx, hbl⟩ := hrel
            have hal := Sq.agn_length j F t
            have hsn := Sq.agn_snoc j F t
            by_cases hjn : j < k
            · have hji : (j : Int) < k := by omega
              have hFF := HFF.out
              have hlt1 : (Sq.agn j F t).length - F < (Sq.agn j F t).length := by rw [hal]; omega
              obtain ⟨q, hq⟩ : ∃ q, (Sq.agn j F t).length - F = q := ⟨_, rfl⟩
              rw [hq] at hsn hlt1
              have hqi : IntKind.i64.wrap (((Sq.agn j F t).length : Int) - F) = q := (IntWalk.i64_in _ (by rw [hal]; omega)).trans (by rw [hal] at hq ⊢; omega)
              have hq0 : (0 : Int) ≤ q := by omega
              have hq1 : (q : Int) < (Sq.agn j F t).length := by omega
              have hl9 : (Sq.agn j F t).length ≤ 30000000 := by rw [hal]; omega
              generalize Sq.agn j F t = T at *
              obtain ⟨A, c, hb, ho⟩ := htx
              obtain ⟨g, cq, e1, hcell⟩ := ho.cell hlt1
              injection e1 with e1 e2 e3
              subst e1 e3
              generalize T.getD q 0 = y9 at *
              have HSN := Lib.hid hsn
              have HW := Lib.hid (And.intro hb (And.intro ho hbl))
              have c0 := cell_of_cells hb 0
              have f0 := unfrozen_of_cells hb 0
              have hlb2 : b < wr.heap.size := (Array.getElem?_eq_some_iff.1 hb).1
              have HA := Lib.hid (show Own (wr.drew.alloc (.cells #[.int .u8 y9.toNat] 5)) (b + 1) (.slice (some ⟨g, 0, none⟩) T.length c) T ∧ b + 1 ≤ (wr.drew.alloc (.cells #[.int .u8 y9.toNat] 5)).heap.size ∧ (wr.drew.alloc (.cells #[.int .u8 y9.toNat] 5)).heap[wr.heap.size]? = some (.cells #[.int .u8 y9.toNat] 5) ∧ (wr.drew.alloc (.cells #[.int .u8 y9.toNat] 5)).heap[b]? = some (.cells #[.slice (some ⟨g, 0, none⟩) T.length c, .int .i64 M] 41 (0, 0)) ∧ Below b w (wr.drew.alloc (.cells #[.int .u8 y9.toNat] 5)) from
                ⟨Own.alloc (Own.drew ho) _, by simp; omega, heap_alloc_new wr.drew _, (Below.heap_alloc _ _ _ hlb2).trans hb, (hbl.drew).alloc (by show b ≤ wr.heap.size; omega) _⟩)
              clear hsn hal hq ho hbl hFF hb HFF
              go_wp2_with fail
              go_region_law (refine step_app_row rfl (.tmp 46) (.tmp 60) rfl rfl HA.out.1 HA.out.2.1 [y9] _ 1 1 rfl rfl HA.out.2.2.1 (by simp; omega) ?_; intro v1 w5 ho1 hb1; obtain ⟨A4, c5, e4⟩ := ho1.slice; obtain ⟨n4, hn4⟩ : ∃ n4, (T ++ [y9]).length = n4 := ⟨_, rfl⟩; rw [hn4] at e4; clear hn4; subst e4; have HPUT := Lib.hid (And.intro (TxAt.put HA.out.2.2.2.1 ho1 hb1) ((HA.out.2.2.2.2.trans (hb1.mono (Nat.le_succ b))).setCell (p := ⟨b, 0, none⟩) (Nat.le_refl _) (.slice A4 n4 c5))); have c4 : w5.cell? ⟨b, 0, none⟩ = some (.slice (some ⟨g, 0, none⟩) T.length c) := (by rw [hb1.cell (p := ⟨b, 0, none⟩) (Nat.lt_succ_self b)]; exact cell_of_cells HA.out.2.2.2.1 0); have f4 : w5.frozen? ⟨b, 0, none⟩ = false := (by rw [hb1.frozen (p := ⟨b, 0, none⟩) (Nat.lt_succ_self b)]; exact unfrozen_of_cells HA.out.2.2.2.1 0); clear ho1 hb1)
              all_goals (
                have HQ := Lib.hid HPUT.out
                clear c4 f4 HPUT HA HW c0 f0
                generalize w5.setCell ⟨b, 0, none⟩ (.slice A4 n4 c5) = w6 at *
                go_wp2
                go_roundg (k - (j + 1))
                case rel => exact ⟨j + 1, by omega, rfl, by go_num, by rw [HSN.out]; exact HQ.out.1, HQ.out.2⟩
                case measure => omega)
            · obtain rfl : j = k := by omega
              have hji : ¬ (j : Int) < j := by omega
              have HQ := Lib.hid (And.intro htx hbl)
              clear htx hbl hal hsn
              go_wp2
              go_ret2
              exact ⟨tok_good HC.out.1 HC.out.2.1, fun _ => by rw [HC.out.2.2]; exact HQ.out.1, HQ.out.2⟩
end Go.Proofs.Ytepndjlgjaeonaa.Hg
