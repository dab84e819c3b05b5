/-
  The program's text in memory; a token of it (layer 8).
-/
import Derived.Test.YtepndjlgjaeonaaGc
import Derived.Test.YtepndjlgjaeonaaHeld
namespace Go.Proofs.Ytepndjlgjaeonaa.Hg
open Go.RowKit
set_option linter.unusedVariables false

/-- a text that is told, in block b; its bytes lie behind it -/
def TxAt (w : World) (b : Nat) (M : Nat) (t : List UInt8) : Prop :=
  ∃ A c, w.heap[b]? = some (.cells #[.slice A t.length c, .int .i64 M] 41 (0, 0)) ∧ Own w (b + 1) (.slice A t.length c) t
section
variable {w w' : World} {b M : Nat} {t : List UInt8}
theorem TxAt.lt (h : TxAt w b M t) : b < w.heap.size := by
  obtain ⟨A, c, hb, _⟩ := h
  exact (Array.getElem?_eq_some_iff.1 hb).1
theorem TxAt.below (h : TxAt w b M t) (hb : Below w.heap.size w w') : TxAt w' b M t := by
  have hl := h.lt
  obtain ⟨A, c, h1, h2⟩ := h
  exact ⟨A, c, (hb.block b hl).trans h1, h2.below hb⟩
theorem TxAt.drew (h : TxAt w b M t) : TxAt w.drew b M t := h
/-- the bytes have grown, and their slice is stored -/
theorem TxAt.put {A : Option Addr} {c : Nat} {v' : Value} {t' : List UInt8} (h : w.heap[b]? = some (.cells #[.slice A t.length c, .int .i64 M] 41 (0, 0))) (ho : Own w' (b + 1) v' t') (hb : Below (b + 1) w w') : TxAt (w'.setCell ⟨b, 0, none⟩ v') b M t' := by
  obtain ⟨A', c', rfl⟩ := ho.slice
  exact ⟨A', c', by rw [heap_setCell_cells ((hb.block b (by omega)).trans h)]; rfl, ho.setCell (by show b < b + 1; omega) _⟩
end
/-- what a token answers -/
def tokN (M : Nat) (t s : List UInt8) : Int := if Sq.code M t s = 0 then (Sq.size s : Int) else 0
def tokR (M : Nat) (t s : List UInt8) : Value := .tuple #[.int .i64 (tokN M t s), .int .i64 (Sq.code M t s)]
theorem tok_bad {M : Nat} {t s : List UInt8} {c : Int} (h : Sq.code M t s = c) (h0 : c ≠ 0) : Ending.returned (.tuple #[.int .i64 0, .int .i64 c]) = .returned (tokR M t s) := by unfold tokR tokN; rw [h, if_neg h0]
theorem tok_good {M : Nat} {t s : List UInt8} {n : Int} (h : Sq.code M t s = 0) (hn : (Sq.size s : Int) = n) : Ending.returned (.tuple #[.int .i64 n, .int .i64 0]) = .returned (tokR M t s) := by unfold tokR tokN; rw [h, if_pos rfl, hn]

set_option maxHeartbeats 1000000 in
set_option maxRecDepth 100000 in
theorem holds_any (w : World) (b M : Nat) (t : List UInt8) (h : TxAt w b M t) (n : Int) (hM : M < 9223372036854775808) (ht : t.length ≤ 1000000000) :
    Calls Try.prog 21 #[.pointer (some ⟨b, 0, none⟩), .int .i64 n] w fun r w' => r = .returned (.bool (decide (n ≤ (M : Int) - t.length))) ∧ w' = w.drew := by
  obtain ⟨A, c, hb, -⟩ := h
  have c0 := cell_of_cells hb 0
  have c1 := cell_of_cells hb 1
  clear hb
  have hw : IntKind.i64.wrap ((M : Int) - t.length) = (M : Int) - t.length := IntWalk.i64_in _ (by omega)
  go_enter Try.func21, Try.ntmps21
  go_wp2_with fail
  refine wp_region_still_lit (by kernel_rfl) (by kernel_rfl) ?_
  change wpStill _ _ (World.drew _) (fun a' => Exit.then _ _ _ a' (World.drew _)) _ _
  iterate 13 ((with_reducible refine wpStill_step ?_); intro K hK; go_simp; refine hK _ ?_; clear hK K)
  refine wpStill_nil ?_
  go_wp2
  go_ret
  exact ⟨rfl, rfl⟩

theorem wp_app_str {B : Nat} {v : Value} {l : List UInt8} {w : World} {o : Oper} {a : Act} {Q : Exit → Act → World → Prop} {K : Act → World → Prop} (sl x : Operand)
    (ho : o.op = .call { callee := .builtin .append, args := #[sl, x], argTypes := #[33, 9] }) (hs : a.eval sl = v) (h : Own w B v l) (hB : B ≤ w.heap.size) (s : ByteArray) (hx : a.eval x = .string s) (hl : l.length + s.size ≤ 100000000)
    (hK : ∀ v' w', Own w' B v' (l ++ bl s) → Below B w w' → K (a.put o.dst v') w') : o.wp Try.prog a w K Q := by
  obtain ⟨v', w', hr, h2, h3⟩ := run_app_str h hB s hl o.type
  unfold Oper.wp execOp
  simp only [ho, resolve, invoke, builtin, Sem.run_bind, Sem.run_pure, Result.andThen_ok, List.map_toArray, List.map_cons, List.map_nil, hs, hx, hr]
  exact hK v' w' h2 h3
theorem wp_app_row {B : Nat} {v : Value} {l : List UInt8} {w : World} {o : Oper} {a : Act} {Q : Exit → Act → World → Prop} {K : Act → World → Prop} (sl x : Operand)
    (ho : o.op = .call { callee := .builtin .append, args := #[sl, x], argTypes := #[33, 33] }) (hs : a.eval sl = v) (h : Own w B v l) (hB : B ≤ w.heap.size) (m : List UInt8) (g c n : Nat) (hn : n = m.length) (hx : a.eval x = .slice (some ⟨g, 0, none⟩) n c)
    (hg : w.heap[g]? = some (.cells (m.map fun c => Value.int .u8 c.toNat).toArray 5)) (hl : l.length + m.length ≤ 100000000)
    (hK : ∀ v' w', Own w' B v' (l ++ m) → Below B w w' → K (a.put o.dst v') w') : o.wp Try.prog a w K Q := by
  subst hn
  obtain ⟨v', w', hr, h2, h3⟩ := run_app_row h hB m g hg hl o.type c
  unfold Oper.wp execOp
  simp only [ho, resolve, invoke, builtin, Sem.run_bind, Sem.run_pure, Result.andThen_ok, List.map_toArray, List.map_cons, List.map_nil, hs, hx, hr]
  exact hK v' w' h2 h3

set_option maxHeartbeats 2000000 in
set_option maxRecDepth 100000 in
theorem take_any (w : World) (b M : Nat) (t : List UInt8) (h : TxAt w b M t) (s : ByteArray) (h0 : 0 < s.size) (hc : (s[0]'h0).toNat < 128) (hM : M < 9223372036854775808) (ht : t.length ≤ 20000000) (hs : s.size ≤ 20000000) :
    Calls Try.prog 18 #[.pointer (some ⟨b, 0, none⟩), .string s] w fun r w' => r = .returned (tokR M t (bl s)) ∧ (Sq.code M t (bl s) = 0 → TxAt w' b M (Sq.tells t (bl s))) ∧ Below b w w' := by
  have hlb := h.lt
  have hg0 : (((bl s)).getD 0 0).toNat = s[0].toNat := by rw [bl_getD s 0 h0]
  have hlen := bl_length s
  obtain ⟨n, hn⟩ : ∃ n, s[0].toNat = n := ⟨_, rfl⟩
  have hni : (s[0].toNat : Int) = n := by rw [hn]
  rw [hn] at hg0 hc
  have HG := Lib.hid hg0
  have HL := Lib.hid hlen
  have HTX := Lib.hid h
  have h0i : (0 : Int) < s.size := by omega
  have hzz : IntKind.i64.wrap (n : Int) = n := IntWalk.i64_in _ (by omega)
  obtain ⟨n2, hn2⟩ : ∃ n2 : Nat, n + 2 = n2 := ⟨_, rfl⟩
  have hn2i : IntKind.i64.wrap ((n : Int) + 2) = n2 := (IntWalk.i64_in _ (by omega)).trans (by omega)
  obtain ⟨n1, hn1⟩ : ∃ n1 : Nat, n + 1 = n1 := ⟨_, rfl⟩
  have hn1i : IntKind.i64.wrap ((n2 : Int) - 1) = n1 := (IntWalk.i64_in _ (by omega)).trans (by omega)
  have HN := Lib.hid (And.intro hn1 hn2)
  clear hlen hg0 hn h
  by_cases hA : s.size < n2
  · have hA1 : (s.size : Int) < n2 := by omega
    have HC := Lib.hid (Sq.litShort (M := M) (t := t) (s := bl s) HG.out hc (by rw [HL.out]; omega))
    clear hA hn1 hn2
    go_enter Try.func18, Try.ntmps18
    go_wp2
    go_ret2
    exact ⟨tok_bad HC.out (by decide), fun hz => (by rw [HC.out] at hz; exact absurd hz (by decide)), Below.refl _ _⟩
  · have hA1 : ¬ (s.size : Int) < n2 := by omega
    have HH := Lib.hid (holds_any w b M t HTX.out n1 hM (by omega))
    by_cases hL : M < t.length + n1
    · have HC := Lib.hid (Sq.litLimit (M := M) (t := t) (s := bl s) HG.out hc (by rw [HL.out]; omega) (by omega))
      have hL1 : decide ((n1 : Int) ≤ (M : Int) - t.length) = false := decide_eq_false (by omega)
      rw [hL1] at HH
      clear hA hL hn1 hn2
      go_enter Try.func18, Try.ntmps18
      go_wp2_with (go_at_call 21; refine HH.out.mono ?_; rintro e w2 ⟨rfl, rfl⟩)
      go_ret2
      exact ⟨tok_bad HC.out (by decide), fun hz => (by rw [HC.out] at hz; exact absurd hz (by decide)), (Below.refl _ _).drew⟩
    · have hL1 : decide ((n1 : Int) ≤ (M : Int) - t.length) = true := decide_eq_true (by omega)
      rw [hL1] at HH
      have HC := Lib.hid (And.intro (Sq.litGood (M := M) (t := t) (s := bl s) HG.out hc (by rw [HL.out]; omega) (by omega)) (And.intro (show ((Sq.size (bl s) : Nat) : Int) = n2 by rw [Sq.litSize HG.out hc, hn2]) (show Sq.tells t (bl s) = t ++ bl (s.extract 1 n2) by rw [Sq.litTells HG.out hc, ← hn2, show n + 2 = 1 + (n + 1) by omega, bl_mid s 1 (n + 1)])))
      have hsl := slice_mid s 1 n2 (1 : Int) (n2 : Int) rfl rfl (by omega) (by omega)
      have HX := Lib.hid (And.intro (show n1 ≤ 200 by omega) (show (s.extract 1 n2).size = n1 by rw [ByteArray.size_extract]; omega))
      obtain ⟨A, cp, hb, ho⟩ := HTX.out
      have c0 := cell_of_cells hb 0
      have HT0 := Lib.hid (And.intro hb ho)
      clear hA hL hn1 hn2 hb ho
      generalize s.extract 1 n2 = X at *
      go_enter Try.func18, Try.ntmps18
      go_wp2_with (go_at_call 21; refine HH.out.mono ?_; rintro e w2 ⟨rfl, hw2⟩; have HT := Lib.hid (show (w2.heap[b]? = some (.cells #[.slice A t.length cp, .int .i64 M] 41 (0, 0)) ∧ Own w2 (b + 1) (.slice A t.length cp) t) ∧ Below b w w2 from by rw [hw2]; exact ⟨HT0.out, (Below.refl _ _).drew⟩); replace c0 : w2.cell? ⟨b, 0, none⟩ = some (.slice A t.length cp) := (by rw [hw2]; exact c0); clear hw2)
      refine wp_region_seq (fun W => True) [(0, false, 0), (1, false, 1), (2, false, 3), (3, false, 7), (5, false, 15), (6, false, 47), (7, false, 111), (4, true, 239), (8, true, 255), (9, false, 511), (10, false, 1023), (11, true, 2047)]
        12 (by kernel_rfl) (by kernel_rfl) (by kernel_rfl) (fun d _ _ _ _ h => by cases d <;> exact h) (by kernel_rfl) (by kernel_rfl) (trivial) ?_
      have HD := Lib.hid (And.intro (show Own w2.drew (b + 1) (.slice A t.length cp) t from HT.out.1.2) (And.intro (show w2.drew.heap[b]? = some (.cells #[.slice A t.length cp, .int .i64 M] 41 (0, 0)) from HT.out.1.1) (show Below b w w2.drew from HT.out.2.drew)))
      generalize w2.drew = w3 at *
      clear c0
      refine seqH_take (.pointer (some ⟨b, 0, none⟩)) rfl (Or.inl ⟨by rfl, fun W _ => by go_simp⟩) ?_
      go_simp
      refine seqH_take (.pointer (some ⟨b, 0, none⟩)) rfl (Or.inl ⟨by rfl, fun W _ => by go_simp⟩) ?_
      go_simp
      refine seqH_take (.pointer (some ⟨b, 0, none⟩)) rfl (Or.inl ⟨by rfl, fun W _ => by go_simp⟩) ?_
      go_simp
      refine seqH_take (.pointer (some ⟨b, 0, none⟩)) rfl (Or.inl ⟨by rfl, fun W _ => by go_simp⟩) ?_
      go_simp
      refine seqH_take (.string s) rfl (Or.inl ⟨by rfl, fun W _ => by go_simp⟩) ?_
      go_simp
      refine seqH_take (.int .i64 n2) rfl (Or.inl ⟨by rfl, fun W _ => by go_simp⟩) ?_
      go_simp
      refine seqH_take (.string X) rfl (Or.inl ⟨by rfl, fun W _ => by go_simp⟩) ?_
      go_simp
      refine seqH_call rfl (by rfl) (fun K hK => ?_)
      have HK := Lib.hid hK
      clear hK
      have c3 := cell_of_cells HD.out.2.1 0
      go_simp
      refine HK.out _ _ trivial ?_
      clear HK K c3
      go_simp
      refine seqH_call rfl (by rfl) (fun K hK => ?_)
      have hlt3 : b < w3.heap.size := (Array.getElem?_eq_some_iff.1 HD.out.2.1).1
      refine wp_app_str (.tmp 24) (.tmp 27) rfl rfl HD.out.1 hlt3 X rfl (by have h8 := HX.out.1; have h9 := HX.out.2; omega) ?_
      intro v4 w4 ho4 hb4
      obtain ⟨A4, c5, e4⟩ := ho4.slice
      obtain ⟨n4, hn4⟩ : ∃ n4, (t ++ bl X).length = n4 := ⟨_, rfl⟩
      rw [hn4] at e4
      clear hn4
      subst e4
      have HPUT := Lib.hid (And.intro (TxAt.put HD.out.2.1 ho4 hb4) ((HD.out.2.2.trans (hb4.mono (Nat.le_succ b))).setCell (p := ⟨b, 0, none⟩) (Nat.le_refl _) (.slice A4 n4 c5)))
      have c4 : w4.cell? ⟨b, 0, none⟩ = some (.slice A t.length cp) := by rw [hb4.cell (p := ⟨b, 0, none⟩) (Nat.lt_succ_self b)]; exact cell_of_cells HD.out.2.1 0
      have f4 : w4.frozen? ⟨b, 0, none⟩ = false := by rw [hb4.frozen (p := ⟨b, 0, none⟩) (Nat.lt_succ_self b)]; exact unfrozen_of_cells HD.out.2.1 0
      clear ho4 hb4
      refine hK _ _ trivial ?_
      clear hK K
      go_simp
      refine seqH_take (.pointer (some ⟨b, 0, none⟩)) rfl (Or.inl ⟨by rfl, fun W _ => by go_simp⟩) ?_
      go_simp
      refine seqH_take (.pointer (some ⟨b, 0, none⟩)) rfl (Or.inl ⟨by rfl, fun W _ => by go_simp⟩) ?_
      go_simp
      refine seqH_call rfl (by rfl) (fun K hK => ?_)
      have HK := Lib.hid hK
      clear hK
      go_simp
      refine HK.out _ _ trivial ?_
      clear HK K
      go_simp
      refine seqH_done ?_
      generalize w4.setCell ⟨b, 0, none⟩ (.slice A4 n4 c5) = w5 at *
      clear c4 f4
      go_wp2
      go_ret2
      exact ⟨tok_good HC.out.1 HC.out.2.1, fun _ => by rw [HC.out.2.2]; exact HPUT.out.1, HPUT.out.2⟩
end Go.Proofs.Ytepndjlgjaeonaa.Hg
