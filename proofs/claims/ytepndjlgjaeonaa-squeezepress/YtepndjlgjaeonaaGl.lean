/-
  What was told: tell, tellAgain (layer 8).
-/
import Derived.Test.YtepndjlgjaeonaaGj
import Derived.Test.YtepndjlgjaeonaaHeld
namespace Go.Proofs.Ytepndjlgjaeonaa.Hg
open Go.RowKit Hw
set_option linter.unusedVariables false

theorem says_len {c t : List UInt8} (h : Sq.Says c t) : c.length ≤ 2 * t.length := by
  induction h with
  | none => simp
  | lit c t b h h1 h2 ih => simp only [List.length_append, List.length_cons]; omega
  | back c t n d h h1 h2 h3 h4 h5 ih => rw [Sq.agn_length]; simp only [List.length_append, List.length_cons, List.length_nil]; omega
/-- a text of which so much was told -/
def PrSt (w : World) (B b m : Nat) (s : ByteArray) (n : Nat) (D : DataW Unit) (t : List UInt8) : Prop := ∃ A c cs, PrAt w B b m s n D A c (1 :: cs) ∧ Sq.Says cs t
theorem PrSt.below {w w' : World} {B b m n : Nat} {s : ByteArray} {D : DataW Unit} {t : List UInt8} (h : PrSt w B b m s n D t) (hb : Below w.heap.size w w') : PrSt w' B b m s n D t := by
  obtain ⟨A, c, cs, h1, h2⟩ := h
  exact ⟨A, c, cs, h1.below hb, h2⟩
section
variable {w : World} {B b m n : Nat} {s : ByteArray} {D : DataW Unit} {A : Option Addr} {c : Nat} {o : List UInt8}
theorem pr_row (h : PrAt w B b m s n D A c o) (l : List UInt8) (g c' : Nat) (hg : w.heap[g]? = some (.cells (l.map fun c => Value.int .u8 c.toNat).toArray 5)) (hl : o.length + l.length ≤ 100000000) (ty : TypeId) :
    ∃ A' k' w', (Builtin.append_ #[33, 33] ty #[.slice A o.length c, .slice (some ⟨g, 0, none⟩) l.length c']).run Try.prog w = .ok (.slice A' (o ++ l).length k') w' ∧ w'.cell? ⟨b, 2, none⟩ = some (.slice A o.length c) ∧ w'.frozen? ⟨b, 2, none⟩ = false ∧
      PrAt (w'.setCell ⟨b, 2, none⟩ (.slice A' (o ++ l).length k')) B b m s n D A' k' (o ++ l) ∧ Below B w (w'.setCell ⟨b, 2, none⟩ (.slice A' (o ++ l).length k')) := by
  obtain ⟨v', w', hr, ho, hgr⟩ := run_app_row2 h.own (Nat.le_trans h.hb (Nat.le_of_lt h.lt)) l g hg hl ty c'
  obtain ⟨A', k', rfl, h1, h2, h3, h4⟩ := h.app ho hgr
  exact ⟨A', k', w', hr, h1, h2, h3, h4⟩
theorem pr_str (h : PrAt w B b m s n D A c o) (x : ByteArray) (hl : o.length + x.size ≤ 100000000) (ty : TypeId) :
    ∃ A' k' w', (Builtin.append_ #[33, 9] ty #[.slice A o.length c, .string x]).run Try.prog w = .ok (.slice A' (o ++ bl x).length k') w' ∧ w'.cell? ⟨b, 2, none⟩ = some (.slice A o.length c) ∧ w'.frozen? ⟨b, 2, none⟩ = false ∧
      PrAt (w'.setCell ⟨b, 2, none⟩ (.slice A' (o ++ bl x).length k')) B b m s n D A' k' (o ++ bl x) ∧ Below B w (w'.setCell ⟨b, 2, none⟩ (.slice A' (o ++ bl x).length k')) := by
  obtain ⟨v', w', hr, ho, hgr⟩ := run_app_str2 h.own (Nat.le_trans h.hb (Nat.le_of_lt h.lt)) x hl ty
  obtain ⟨A', k', rfl, h1, h2, h3, h4⟩ := h.app ho hgr
  exact ⟨A', k', w', hr, h1, h2, h3, h4⟩
/-- the append at the operation; a name for the new length -/
theorem wpList_pr_row {ops : Array Oper} {rest : List Oper} {p : Oper} {a : Act} {Q : Exit → Act → World → Prop} (hgd : p.guard = none) (sl x : Operand)
    (ho : p.op = .call { callee := .builtin .append, args := #[sl, x], argTypes := #[33, 33] }) (N : Nat) (hN : N = o.length) (hs : a.eval sl = .slice A N c) (h : PrAt w B b m s n D A c o) (l : List UInt8) (g c' nn : Nat) (hnn : nn = l.length) (hx : a.eval x = .slice (some ⟨g, 0, none⟩) nn c')
    (hg : w.heap[g]? = some (.cells (l.map fun c => Value.int .u8 c.toNat).toArray 5)) (hl : o.length + l.length ≤ 100000000)
    (hK : ∀ A' k' M w', M = (o ++ l).length → w'.cell? ⟨b, 2, none⟩ = some (.slice A N c) → w'.frozen? ⟨b, 2, none⟩ = false → PrAt (w'.setCell ⟨b, 2, none⟩ (.slice A' M k')) B b m s n D A' k' (o ++ l) → Below B w (w'.setCell ⟨b, 2, none⟩ (.slice A' M k')) →
      wpList Try.prog ops Q rest (a.put p.dst (.slice A' M k')) w') : wpList Try.prog ops Q (p :: rest) a w := by
  subst hnn hN
  refine wpList_plain hgd fun K hK' => ?_
  obtain ⟨A', k', w', hr, h1, h2, h3, h4⟩ := pr_row h l g c' hg hl p.type
  unfold Oper.wp execOp
  simp only [ho, resolve, invoke, builtin, Sem.run_bind, Sem.run_pure, Result.andThen_ok, List.map_toArray, List.map_cons, List.map_nil, hs, hx, hr]
  exact hK' _ _ (hK A' k' _ w' rfl h1 h2 h3 h4)
theorem wp_pr_str {p : Oper} {a : Act} {Q : Exit → Act → World → Prop} {K : Act → World → Prop} (sl x : Operand)
    (ho : p.op = .call { callee := .builtin .append, args := #[sl, x], argTypes := #[33, 9] }) (N : Nat) (hN : N = o.length) (hs : a.eval sl = .slice A N c) (h : PrAt w B b m s n D A c o) (z : ByteArray) (hx : a.eval x = .string z) (hl : o.length + z.size ≤ 100000000)
    (hK : ∀ A' k' M w', M = (o ++ bl z).length → w'.cell? ⟨b, 2, none⟩ = some (.slice A N c) → w'.frozen? ⟨b, 2, none⟩ = false → PrAt (w'.setCell ⟨b, 2, none⟩ (.slice A' M k')) B b m s n D A' k' (o ++ bl z) → Below B w (w'.setCell ⟨b, 2, none⟩ (.slice A' M k')) →
      K (a.put p.dst (.slice A' M k')) w') : p.wp Try.prog a w K Q := by
  subst hN
  obtain ⟨A', k', w', hr, h1, h2, h3, h4⟩ := pr_str h z hl p.type
  unfold Oper.wp execOp
  simp only [ho, resolve, invoke, builtin, Sem.run_bind, Sem.run_pure, Result.andThen_ok, List.map_toArray, List.map_cons, List.map_nil, hs, hx, hr]
  exact hK A' k' _ w' rfl h1 h2 h3 h4
end
theorem ext_take (x : ByteArray) (n : Nat) : bl (x.extract 0 n) = (bl x).take n := by rw [bl_extract, List.drop_zero]

set_option maxHeartbeats 2000000 in
set_option maxRecDepth 100000 in
theorem tellAgain_any (w : World) (B b m : Nat) (s : ByteArray) (n : Nat) (D : DataW Unit) (t : List UInt8) (h : PrSt w B b m s n D t) (L d : Nat) (h1 : 4 ≤ L) (h2 : L ≤ 131) (h3 : 1 ≤ d) (h4 : d ≤ 65535) (h5 : d ≤ t.length) (ht : t.length ≤ 1000000) :
    Calls Try.prog 17 #[.pointer (some ⟨b, 0, none⟩), .int .i64 L, .int .i64 d] w fun r w' => r = .returned (.tuple #[]) ∧ PrSt w' B b m s n D (Sq.agn L d t) ∧ Below B w w' := by
  obtain ⟨A, c, cs, hp, hsy⟩ := h
  have hBw : B ≤ w.heap.size := Nat.le_trans hp.hb (Nat.le_of_lt hp.lt)
  have hl := says_len hsy
  have c2 := hp.c2
  have HS := Lib.hid (Sq.Says.back cs t L d hsy h1 h2 h3 h4 h5)
  obtain ⟨ol, hol⟩ : ∃ ol, ((1 : UInt8) :: cs).length = ol := ⟨_, rfl⟩
  rw [hol] at c2
  have hol2 : ol ≤ 3000000 := by rw [← hol, List.length_cons]; omega
  have hw1 : IntKind.i64.wrap (128 + (L : Int)) = 128 + (L : Int) := IntWalk.i64_in _ (by omega)
  have hw2 : IntKind.i64.wrap (128 + (L : Int) - 4) = 128 + (L : Int) - 4 := IntWalk.i64_in _ (by omega)
  have e1 : (UInt8.ofNat (L + 124)).toNat = L + 124 := Sq.u8 (by omega)
  have e2 : (UInt8.ofNat (d / 256)).toNat = d / 256 := Sq.u8 (by omega)
  have e3 : (UInt8.ofNat (d % 256)).toNat = d % 256 := Sq.u8 (by omega)
  have hc1 : IntKind.u8.wrap (128 + (L : Int) - 4) = ((UInt8.ofNat (L + 124)).toNat : Int) := by rw [e1]; simp [IntKind.wrap, IntKind.bits, IntKind.signed]; omega
  have hc2 : IntKind.u8.wrap ((d : Int) / 256) = ((UInt8.ofNat (d / 256)).toNat : Int) := by rw [e2]; simp [IntKind.wrap, IntKind.bits, IntKind.signed]; omega
  have hc3 : IntKind.u8.wrap (d : Int) = ((UInt8.ofNat (d % 256)).toNat : Int) := by rw [e3]; simp [IntKind.wrap, IntKind.bits, IntKind.signed]
  have HP := Lib.hid hp
  have HOL := Lib.hid hol
  clear e1 e2 e3 hp hsy hl hol
  generalize UInt8.ofNat (L + 124) = x1 at *
  generalize UInt8.ofNat (d / 256) = x2 at *
  generalize UInt8.ofNat (d % 256) = x3 at *
  go_enter Try.func17, Try.ntmps17
  go_wp2_with (at_builtin; refine wpList_pr_row rfl (.tmp 10) (.tmp 20) rfl ol HOL.out.symm rfl (HP.out.below ((Below.refl w.heap.size w).alloc (Nat.le_refl _) _)) [x1, x2, x3] w.heap.size 3 3 rfl rfl (heap_alloc_new w _) (by rw [HOL.out]; simp; omega) ?_; intro A' k' M w2 hM c4 f4 hp2 hb2; have HP2 := Lib.hid (And.intro hp2 (((Below.refl B w).alloc hBw _).trans hb2)); clear hM hp2 hb2)
  go_end0
  exact ⟨rfl, ⟨A', k', _, HP2.out.1, HS.out⟩, HP2.out.2⟩

set_option maxHeartbeats 4000000 in
set_option maxRecDepth 100000 in
theorem tell_any (w : World) (B b m : Nat) (s : ByteArray) (n : Nat) (D : DataW Unit) (t : List UInt8) (h : PrSt w B b m s n D t) (x : ByteArray) (hx : t.length + x.size ≤ 1000000) :
    Calls Try.prog 16 #[.pointer (some ⟨b, 0, none⟩), .string x] w fun r w' => r = .returned (.tuple #[]) ∧ PrSt w' B b m s n D (t ++ bl x) ∧ Below B w w' := by
  have HP := Lib.hid h
  clear h
  go_enter Try.func16, Try.ntmps16
  go_wp2_with fail
  go_loopg [1] x.size (fun gk v wx => ∃ k : Nat, gk = x.size - k ∧ k ≤ x.size ∧ v = .string (x.extract k x.size) ∧ PrSt wx B b m s n D (t ++ (bl x).take k) ∧ Below B w wx)
  case atStart => exact ⟨0, rfl, Nat.zero_le _, by rw [ext0], by rw [List.take_zero, List.append_nil]; exact HP.out, Below.refl _ _⟩
  case round =>
    obtain ⟨k, rfl, hk, rfl, hst, hbl⟩ := hrel
    have hsz : (x.extract k x.size).size = x.size - k := by rw [ByteArray.size_extract]; omega
    have hbx : bl (x.extract k x.size) = (bl x).drop k := bl_drop x k
    have hext := ext_ext x k
    by_cases hlt : k < x.size
    · obtain ⟨X, hX⟩ : ∃ X, x.extract k x.size = X := ⟨_, rfl⟩
      rw [hX] at hsz hbx hext
      rw [hX]
      have h0i : (0 : Int) < X.size := by omega
      obtain ⟨n9, hn9⟩ : ∃ n9 : Nat, min X.size 128 = n9 := ⟨_, rfl⟩
      have hif1 : (if (128 : Int) < X.size then 128 else (X.size : Int)) = n9 := by split <;> omega
      have hif2 : (if (X.size : Int) < 128 then (X.size : Int) else 128) = n9 := by split <;> omega
      have hn1 : 1 ≤ n9 := by omega
      have hn2 : n9 ≤ 128 := by omega
      have hn3 : n9 ≤ X.size := by omega
      have hsl := slice_to X n9 (n9 : Int) rfl hn3
      have hsf := slice_from X n9 (n9 : Int) rfl hn3
      have hby : bl (X.extract 0 n9) = ((bl x).drop k).take n9 := by rw [ext_take, hbx]
      have hys : (X.extract 0 n9).size = n9 := by rw [ByteArray.size_extract]; omega
      have hez := hext n9
      obtain ⟨A, c, cs, hp, hsy⟩ := hst
      have hl := says_len hsy
      have hlen : (t ++ (bl x).take k).length ≤ t.length + x.size := by rw [List.length_append, List.length_take, bl_length]; omega
      have hlit := Sq.Says.lit cs (t ++ (bl x).take k) (bl (X.extract 0 n9)) hsy (by rw [bl_length, hys]; exact hn1) (by rw [bl_length, hys]; exact hn2)
      rw [bl_length, hys, List.append_assoc] at hlit
      have htk : (bl x).take k ++ bl (X.extract 0 n9) = (bl x).take (k + n9) := by rw [hby, List.take_add]
      rw [htk] at hlit
      have e1 : (UInt8.ofNat (n9 - 1)).toNat = n9 - 1 := Sq.u8 (by omega)
      have hcv : IntKind.u8.wrap ((n9 : Int) - 1) = ((UInt8.ofNat (n9 - 1)).toNat : Int) := by rw [e1]; simp [IntKind.wrap, IntKind.bits, IntKind.signed]; omega
      have hw1 : IntKind.i64.wrap ((n9 : Int) - 1) = (n9 : Int) - 1 := IntWalk.i64_in _ (by omega)
      generalize UInt8.ofNat (n9 - 1) = y at *
      generalize X.extract 0 n9 = Y at *
      generalize X.extract n9 X.size = Z at *
      have c2 := hp.c2
      obtain ⟨ol, hol⟩ : ∃ ol, ((1 : UInt8) :: cs).length = ol := ⟨_, rfl⟩
      rw [hol] at c2
      have hol2 : ol ≤ 3000000 := by rw [← hol, List.length_cons]; omega
      have HS := Lib.hid (And.intro (show Sq.Says (cs ++ y :: bl Y) (t ++ (bl x).take (k + n9)) from hlit) (show (1 : UInt8) :: cs ++ [y] ++ bl Y = 1 :: (cs ++ y :: bl Y) by simp))
      have HPP := Lib.hid (And.intro hp (Nat.le_trans hp.hb (Nat.le_of_lt hp.lt)))
      have HOL := Lib.hid (And.intro hol hol2)
      have HB := Lib.hid hbl
      have HEZ := Lib.hid hez
      have HZ := Lib.hid (And.intro hsz (And.intro hn1 hn3))
      have HYS := Lib.hid (And.intro hys hn2)
      clear hext hby hys hez hsy hl hlen hlit htk e1 hp hol hol2 hbl hbx hsz hX hn9
      go_wp2_with (at_builtin; refine wpList_pr_row rfl (.tmp 15) (.tmp 19) rfl ol HOL.out.1.symm rfl (HPP.out.1.below ((Below.refl wr.heap.size wr).alloc (Nat.le_refl _) _)) [y] wr.heap.size 1 1 rfl rfl (heap_alloc_new wr _) (by have := HOL.out.2; rw [HOL.out.1]; simp; omega) ?_; intro A' k' M w2 hM c4 f4 hp2 hb2; have HP2 := Lib.hid (And.intro hp2 (HB.out.trans (((Below.refl B wr).alloc HPP.out.2 _).trans hb2))); have HM := Lib.hid hM; clear hM hp2 hb2)
      generalize w2.setCell ⟨b, 2, none⟩ (.slice A' M k') = w3 at *
      clear c4 f4 c2 hcv hw1 hif1 hif2
      refine wp_region_seq (fun W => True) [(0, false, 0), (1, false, 1), (2, false, 3), (3, false, 7), (5, false, 15), (6, false, 47), (7, false, 111), (4, true, 239), (8, true, 255), (9, false, 511), (10, false, 1023), (11, true, 2047)]
        12 (by kernel_rfl) (by kernel_rfl) (by kernel_rfl) (fun d _ _ _ _ h => by cases d <;> exact h) (by kernel_rfl) (by kernel_rfl) trivial ?_
      have HD := Lib.hid (And.intro HP2.out.1.drew HP2.out.2.drew)
      generalize w3.drew = w4 at *
      refine seqH_take (.pointer (some ⟨b, 0, none⟩)) rfl (Or.inl ⟨by rfl, fun W _ => by go_simp⟩) ?_
      go_simp
      refine seqH_take (.pointer (some ⟨b, 0, none⟩)) rfl (Or.inl ⟨by rfl, fun W _ => by go_simp⟩) ?_
      go_simp
      refine seqH_take (.pointer (some ⟨b, 0, none⟩)) rfl (Or.inl ⟨by rfl, fun W _ => by go_simp⟩) ?_
      go_simp
      refine seqH_take (.pointer (some ⟨b, 2, none⟩)) rfl (Or.inl ⟨by rfl, fun W _ => by go_simp⟩) ?_
      go_simp
      refine seqH_take (.string X) rfl (Or.inl ⟨by rfl, fun W _ => by go_simp⟩) ?_
      go_simp
      refine seqH_take (.int .i64 n9) rfl (Or.inl ⟨by rfl, fun W _ => by go_simp⟩) ?_
      go_simp
      refine seqH_take (.string Y) rfl (Or.inl ⟨by rfl, fun W _ => by go_simp⟩) ?_
      go_simp
      refine seqH_call rfl (by rfl) (fun K hK => ?_)
      have HK := Lib.hid hK
      clear hK
      have c5 := HD.out.1.c2
      rw [← HM.out] at c5
      go_simp
      refine HK.out _ _ trivial ?_
      clear HK K c5
      go_simp
      refine seqH_call rfl (by rfl) (fun K hK => ?_)
      refine wp_pr_str (.tmp 27) (.tmp 30) rfl M HM.out rfl HD.out.1 Y rfl (by have := HOL.out; have := HYS.out; rw [List.length_append, HOL.out.1]; simp; omega) ?_
      intro A5 k5 M5 w5 hM5 c6 f6 hp5 hb5
      have HP5 := Lib.hid (And.intro hp5 (HD.out.2.trans hb5))
      clear hp5 hb5 hM5
      refine hK _ _ trivial ?_
      clear hK K
      go_simp
      refine seqH_take (.pointer (some ⟨b, 0, none⟩)) rfl (Or.inl ⟨by rfl, fun W _ => by go_simp⟩) ?_
      go_simp
      refine seqH_take (.pointer (some ⟨b, 2, none⟩)) rfl (Or.inl ⟨by rfl, fun W _ => by go_simp⟩) ?_
      go_simp
      refine seqH_call rfl (by rfl) (fun K hK => ?_)
      have HK := Lib.hid hK
      clear hK
      go_simp
      refine HK.out _ _ trivial ?_
      clear HK K
      go_simp
      refine seqH_done ?_
      generalize w5.setCell ⟨b, 2, none⟩ (.slice A5 M5 k5) = w6 at *
      clear c6 f6
      go_wp2
      go_roundg (x.size - (k + n9))
      case rel => exact ⟨k + n9, rfl, by have := HZ.out; omega, by rw [HEZ.out], ⟨A5, k5, _, by rw [← HS.out.2]; exact HP5.out.1, HS.out.1⟩, HP5.out.2⟩
      case measure => have := HZ.out; omega
    · obtain rfl : k = x.size := by omega
      have hz : ¬ (0 : Int) < (x.extract x.size x.size).size := by omega
      have HQ := Lib.hid (And.intro hst hbl)
      clear hext hbx hst hbl hsz
      generalize x.extract x.size x.size = X at *
      go_wp2
      go_end0
      exact ⟨rfl, by have := HQ.out.1; rwa [List.take_of_length_le (by rw [bl_length]; exact Nat.le_refl _)] at this, HQ.out.2⟩
end Go.Proofs.Ytepndjlgjaeonaa.Hg
