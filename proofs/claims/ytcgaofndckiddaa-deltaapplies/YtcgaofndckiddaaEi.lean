/-
  Layer 9: steps of a delta; a delta without steps; the one that tells the target as it is.
-/
import Derived.Test.YtcgaofndckiddaaEh
import Derived.Deep.DeepCutAuto
namespace Go.Proofs.Ytcgaofndckiddaa.He
open Go.RowKit Hg
set_option linter.unusedVariables false

set_option maxHeartbeats 2000000 in
set_option maxRecDepth 100000 in
theorem take_none (w : World) (B b : Nat) (o : List UInt8) (h : St w B b o) (p : Int) :
    Calls Try.prog 22 #[.pointer (some ⟨b, 0, none⟩), .int .i64 p, .int .i64 0] w fun r w' => r = .returned (.tuple #[]) ∧ St w' B b (o ++ Df.takeF p.toNat 0) ∧ Below B w w' := by
  have HP := Lib.hid h
  clear h
  go_enter Try.func22, Try.ntmps22
  go_wp2
  refine bodyPost_ret (results_none Try.results22 _ _ _) rfl ?_
  exact ⟨rfl, by unfold Df.takeF; rw [if_pos rfl, List.append_nil]; exact HP.out, Below.refl _ _⟩

set_option maxHeartbeats 2000000 in
set_option maxRecDepth 100000 in
theorem take_some (w : World) (B b : Nat) (o : List UInt8) (h : St w B b o) (p n : Nat) (hp : p < 4294967296) (hn0 : n ≠ 0) (hn : n < 4294967296) (hl : o.length ≤ 900000) :
    Calls Try.prog 22 #[.pointer (some ⟨b, 0, none⟩), .int .i64 p, .int .i64 n] w fun r w' => r = .returned (.tuple #[]) ∧ St w' B b (o ++ Df.takeF p n) ∧ Below B w w' := by
  have hne : ((n : Int) == 0) = false := beq_eq_false_iff_ne.2 (by omega)
  obtain ⟨A, c, hp1⟩ := h
  have c0 := hp1.c0
  have HP := Lib.hid hp1
  have hBw : B ≤ w.heap.size := Nat.le_trans hp1.hb (Nat.le_of_lt hp1.lt)
  clear hp1
  obtain ⟨ol, hol⟩ : ∃ ol, o.length = ol := ⟨_, rfl⟩
  rw [hol] at c0
  have hol2 : ol ≤ 900000 := by omega
  have HOL := Lib.hid hol
  have HE := Lib.hid (show o ++ [1] ++ Df.num4 p ++ Df.num4 n = o ++ Df.takeF p n by unfold Df.takeF; rw [if_neg hn0]; simp)
  clear hol hl hn0
  go_enter Try.func22, Try.ntmps22
  go_upto_region 2 with (at_builtin; refine wpList_st_row rfl (.tmp 11) (.tmp 12) rfl ol HOL.out.symm rfl (HP.out.below ((Below.refl w.heap.size w).alloc (Nat.le_refl _) _)) [1] w.heap.size 1 1 rfl rfl (heap_alloc_new w _) (by rw [HOL.out]; simp; omega) ?_; intro A' k' M w2 hM c4 f4 hp2; have HP2 := Lib.hid (And.intro hp2.1 (((Below.refl B w).alloc hBw _).trans hp2.2)); clear hM hp2)
  generalize w2.setCell ⟨b, 0, none⟩ (.slice A' M k') = w3 at *
  have HA := Lib.hid (add_any w3 B b _ ⟨A', k', HP2.out.1⟩ p hp (by rw [List.length_append, HOL.out]; simp; omega))
  have HB := Lib.hid (fun w4 h4 => add_any w4 B b (o ++ [1] ++ Df.num4 p) h4 n hn (by rw [List.length_append, List.length_append, HOL.out]; simp [Df.num4]; omega))
  clear c4 f4
  go_wp2_with (go_at_call 25; first | (with_reducible refine HA.out.mono ?_; rintro r w4 ⟨rfl, hs4, hb4⟩) | (with_reducible refine (HB.out _ hs4).mono ?_; rintro r w5 ⟨rfl, hs5, hb5⟩))
  go_end0
  exact ⟨rfl, by rw [HE.out] at hs5; exact hs5, (HP2.out.2.trans hb4).trans hb5⟩
theorem take_any (w : World) (B b : Nat) (o : List UInt8) (h : St w B b o) (p n : Nat) (hp : p < 4294967296) (hn : n < 4294967296) (hl : o.length ≤ 900000) :
    Calls Try.prog 22 #[.pointer (some ⟨b, 0, none⟩), .int .i64 p, .int .i64 n] w fun r w' => r = .returned (.tuple #[]) ∧ St w' B b (o ++ Df.takeF p n) ∧ Below B w w' := by
  by_cases h0 : n = 0
  · subst h0
    exact take_none w B b o h (p : Int)
  · exact take_some w B b o h p n hp h0 hn hl

set_option maxHeartbeats 2000000 in
set_option maxRecDepth 100000 in
theorem tell_any (w : World) (B b : Nat) (o : List UInt8) (h : St w B b o) (x : ByteArray) (hx : x.size ≤ 100000) (hl : o.length ≤ 900000) :
    Calls Try.prog 19 #[.pointer (some ⟨b, 0, none⟩), .string x] w fun r w' => r = .returned (.tuple #[]) ∧ St w' B b (o ++ Df.tellF (bl x)) ∧ Below B w w' := by
  by_cases h0 : x.size = 0
  · have hse : x = ⟨#[]⟩ := by rw [← str_bl x, List.eq_nil_of_length_eq_zero ((bl_length x).trans h0)]; rfl
    subst hse
    have HP := Lib.hid h
    clear h h0
    go_enter Try.func19, Try.ntmps19
    go_wp2
    refine bodyPost_ret (results_none Try.results19 _ _ _) rfl ?_
    exact ⟨rfl, by rw [show Df.tellF (bl ⟨#[]⟩) = [] from rfl, List.append_nil]; exact HP.out, Below.refl _ _⟩
  · have hse : x.toList.isEmpty = false := by rw [toList_bl, List.isEmpty_eq_false_iff]; intro e; have := bl_length x; rw [e] at this; simp at this; omega
    have hxb : bl x ≠ [] := by intro e; have := bl_length x; rw [e] at this; simp at this; omega
    obtain ⟨A, c, hp1⟩ := h
    have c0 := hp1.c0
    have HP := Lib.hid hp1
    have hBw : B ≤ w.heap.size := Nat.le_trans hp1.hb (Nat.le_of_lt hp1.lt)
    clear hp1
    obtain ⟨ol, hol⟩ : ∃ ol, o.length = ol := ⟨_, rfl⟩
    rw [hol] at c0
    have hol2 : ol ≤ 900000 := by omega
    have HOL := Lib.hid hol
    have HE := Lib.hid (show o ++ [2] ++ Df.num4 x.size ++ bl x = o ++ Df.tellF (bl x) by unfold Df.tellF; rw [if_neg hxb, bl_length]; simp)
    clear hol hl h0 hxb
    go_enter Try.func19, Try.ntmps19
    go_upto_region 2 with (at_builtin; refine wpList_st_row rfl (.tmp 9) (.tmp 10) rfl ol HOL.out.symm rfl (HP.out.below ((Below.refl w.heap.size w).alloc (Nat.le_refl _) _)) [2] w.heap.size 1 1 rfl rfl (heap_alloc_new w _) (by rw [HOL.out]; simp; omega) ?_; intro A' k' M w2 hM c4 f4 hp2; have HP2 := Lib.hid (And.intro hp2.1 (((Below.refl B w).alloc hBw _).trans hp2.2)); clear hM hp2)
    generalize w2.setCell ⟨b, 0, none⟩ (.slice A' M k') = w3 at *
    have HA := Lib.hid (add_any w3 B b _ ⟨A', k', HP2.out.1⟩ x.size (by omega) (by rw [List.length_append, HOL.out]; simp; omega))
    clear c4 f4
    go_upto_region 3 with (go_at_call 25; refine HA.out.mono ?_; rintro r w4 ⟨rfl, hs4, hb4⟩)
    obtain ⟨A4, k4, hp4⟩ := hs4
    have c4 := hp4.c0
    obtain ⟨ol4, hol4⟩ : ∃ ol4, (o ++ [2] ++ Df.num4 x.size).length = ol4 := ⟨_, rfl⟩
    rw [hol4] at c4
    have hol5 : ol4 ≤ 900005 := by rw [← hol4, List.length_append, List.length_append, HOL.out]; simp [Df.num4]; omega
    have HP4 := Lib.hid (And.intro hp4 hol4.symm)
    have HB4 := Lib.hid (HP2.out.2.trans hb4)
    clear hp4 hol4 hb4
    go_wp2_with (at_builtin; refine wpList_st_str rfl (.tmp 20) (.tmp 21) rfl ol4 HP4.out.2 rfl HP4.out.1 x rfl (by rw [← HP4.out.2]; omega) ?_; intro A5 k5 M5 w5 hM5 c5 f5 hp5; have HP5 := Lib.hid hp5; clear hM5 hp5)
    go_end0
    exact ⟨rfl, ⟨A5, k5, by rw [← HE.out]; exact HP5.out.1⟩, HB4.out.trans HP5.out.2⟩

theorem st_new {w W : World} {v : Value} {l : List UInt8} {o : Obj} (ho : Own W w.heap.size v l) (hb : Below w.heap.size w W) (he : o = .cells #[v] 37 (0, 0)) : St (W.alloc o) w.heap.size W.heap.size l := by
  subst he
  obtain ⟨A, c, rfl⟩ := ho.slice
  exact ⟨A, c, hb.size, heap_alloc_new W _, ho.alloc _⟩

set_option maxHeartbeats 2000000 in
set_option maxRecDepth 100000 in
theorem begin_any (w : World) (x y : ByteArray) (hx : x.size ≤ 100000) (hy : y.size ≤ 100000) :
    Calls Try.prog 18 #[.string x, .string y] w fun r w' => (∃ A c, r = .returned (.slice A 8 c) ∧ Own w' w.heap.size (.slice A 8 c) (Df.headF (bl x) (bl y))) ∧ Below w.heap.size w w' := by
  have HN := Lib.hid (st_new (w := w) (W := w) (o := .cells #[.slice none 0 0] 37 (0, 0)) (own_nil w w.heap.size) (Below.refl _ _) rfl)
  have HA := Lib.hid (add_any _ w.heap.size w.heap.size [] HN.out x.size (by omega) (by simp))
  have HB := Lib.hid (fun w4 h4 => add_any w4 w.heap.size w.heap.size ([] ++ Df.num4 x.size) h4 y.size (by omega) (by simp [Df.num4]))
  have HE := Lib.hid (show [] ++ Df.num4 x.size ++ Df.num4 y.size = Df.headF (bl x) (bl y) by unfold Df.headF; rw [bl_length, bl_length]; simp)
  go_enter Try.func18, Try.ntmps18
  go_upto_region 4 with (go_at_call 25; first | (with_reducible refine HA.out.mono ?_; rintro r w4 ⟨rfl, hs4, hb4⟩) | (with_reducible refine (HB.out _ hs4).mono ?_; rintro r w5 ⟨rfl, hs5, hb5⟩))
  rw [HE.out] at hs5
  obtain ⟨A5, k5, hp5⟩ := hs5
  have c5 := hp5.c0
  have h8 : (Df.headF (bl x) (bl y)).length = 8 := by simp [Df.headF, Df.num4]
  rw [h8] at c5
  have ho5 := hp5.own
  rw [h8] at ho5
  have HO := Lib.hid (And.intro ho5 ((((Below.refl _ w).alloc (Nat.le_refl _) _).trans hb4).trans hb5))
  clear hp5 h8 ho5 hb4 hb5 hs4
  go_wp2
  go_ret
  exact ⟨⟨A5, k5, rfl, HO.out.1⟩, HO.out.2⟩
end Go.Proofs.Ytcgaofndckiddaa.He
