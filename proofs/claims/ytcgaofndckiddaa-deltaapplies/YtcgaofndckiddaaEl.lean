/-
  Layer 9: by blocks (of texts shorter than a block); the shortest delta of the law's example; awake.
-/
import Derived.Test.YtcgaofndckiddaaEk
namespace Go.Proofs.Ytcgaofndckiddaa.He
open Go.RowKit Hg Hw
set_option linter.unusedVariables false

set_option maxHeartbeats 2000000 in
set_option maxRecDepth 100000 in
theorem blocks_short (w : World) (x : ByteArray) (hx : x.size < 16) :
    Calls Try.prog 23 #[.string x] w fun r w' => (∃ g, r = .returned (.map (some g))) ∧ Below w.heap.size w w' := by
  have hmm := @run_makeMap Try.prog
  have h16 : ¬ (16 : Int) ≤ x.size := by omega
  go_enter Try.func23, Try.ntmps23
  go_wp2_with fail
  clear hmm
  have hb : Below w.heap.size w (w.alloc (.map #[] 0)) := (Below.refl _ w).alloc (Nat.le_refl _) _
  have HB := Lib.hid hb
  clear hb
  go_loopg [4] 0 (fun gk v wr => gk = 0 ∧ v = .int .i64 0 ∧ Below w.heap.size w wr)
  case atStart => exact ⟨rfl, rfl, HB.out⟩
  case round =>
    obtain ⟨rfl, rfl, hbl⟩ := hrel
    go_wp2
    go_ret
    exact ⟨⟨_, rfl⟩, hbl⟩

set_option maxHeartbeats 4000000 in
set_option maxRecDepth 100000 in
theorem byBlocks_short (w : World) (x y : ByteArray) (hx : x.size < 16) (hy : y.size < 16) :
    Calls Try.prog 15 #[.string x, .string y] w (Told w (Df.whollyF (bl x) (bl y))) := by
  have h16 : ¬ (16 : Int) ≤ y.size := by omega
  have HC := Lib.hid (begin_any w x y (by omega) (by omega))
  have HM := Lib.hid (fun w' => blocks_short w' x hx)
  have HT := Lib.hid (fun w3 b h => tell_any w3 w.heap.size b (Df.headF (bl x) (bl y)) h y (by omega) (by rw [lenH]; omega))
  have HE := Lib.hid (show Df.headF (bl x) (bl y) ++ Df.tellF (bl y) = Df.whollyF (bl x) (bl y) from rfl)
  have hsl := slice_from y 0 0 rfl (Nat.zero_le _)
  have hy0 : y.extract 0 y.size = y := by simp
  rw [hy0] at hsl
  go_enter Try.func15, Try.ntmps15
  go_upto_region 2 with (go_at_call 18; refine HC.out.mono ?_; rintro r w1 ⟨⟨A, c, rfl, ho1⟩, hb1⟩)
  have hs := st_new (o := .cells #[.slice A 8 c] 37 (0, 0)) ho1 hb1 rfl
  have HS := Lib.hid (And.intro hs (hb1.alloc hb1.size (.cells #[.slice A 8 c] 37 (0, 0))))
  clear hs hb1 ho1
  go_wp2_with (go_at_call 23; refine (HM.out _).mono ?_; rintro r w2 ⟨⟨g, rfl⟩, hb2⟩)
  obtain ⟨A0, c0, hp0⟩ := HS.out.1
  have hp2 := hp0.below hb2
  have HS2 := Lib.hid (And.intro (show St w2 w.heap.size w1.heap.size (Df.headF (bl x) (bl y)) from ⟨A0, c0, hp2⟩) (HS.out.2.trans (hb2.mono HS.out.2.size)))
  clear hp2 hp0 hb2
  go_loopg [7, 8] 0 (fun gk u v wr => gk = 0 ∧ u = .int .i64 0 ∧ v = .int .i64 0 ∧ St wr w.heap.size w1.heap.size (Df.headF (bl x) (bl y)) ∧ Below w.heap.size w wr)
  case atStart => exact ⟨rfl, rfl, rfl, HS2.out.1, HS2.out.2⟩
  case round =>
    obtain ⟨rfl, rfl, rfl, hst, hbl⟩ := hrel
    have HST := Lib.hid (And.intro hst hbl)
    clear hst hbl
    go_upto_region 16 with (go_at_call 19; refine (HT.out _ _ HST.out.1).mono ?_; rintro r w3 ⟨rfl, hs3, hb3⟩)
    rw [HE.out] at hs3
    obtain ⟨A2, L, c2, hL, k2, ho2⟩ := st_end hs3
    have HP := Lib.hid (And.intro hL (And.intro ho2 (HST.out.2.trans hb3)))
    clear hL ho2 hs3 hb3
    go_wp2
    go_ret
    exact ⟨A2, L, c2, HP.out.1, rfl, HP.out.2⟩

theorem nil_str37 (w : World) : (convert 37 9 (.slice none 0 0)).run Try.prog w = .ok (.string (str [])) w := by kernel_rfl
theorem own_str37 {w : World} {B : Nat} {v : Value} {l : List UInt8} (h : Own w B v l) : (convert 37 9 v).run Try.prog w = .ok (.string (str l)) w := by
  rcases h.2 with ⟨rfl, h0⟩ | ⟨g, cap, cur, rfl, hB, hg, _⟩
  · have : l = [] := List.eq_nil_of_length_eq_zero h0
    subst this
    exact nil_str37 w
  · rw [run_convert_bytes_arg w 37 5 Try.underlying37 Try.underlying5 g 0 l.length cap (l.map fun c => (c.toNat : Int)) (by simp) (fun i hi => by
      obtain ⟨g', c', e, hc⟩ := h.cell hi
      injection e with e1 e2 e3
      injection e1 with e1
      injection e1 with e1
      subst e1
      rw [Nat.zero_add, hc]
      simp [List.getD, List.getElem?_eq_getElem hi]) 9 Try.underlying9]
    simp [strOfNums, Function.comp_def, Go.Proofs.Ytcgaofndckiddaa.str]

set_option maxHeartbeats 4000000 in
set_option maxRecDepth 100000 in
theorem make_short (w : World) (x y : ByteArray) (hx : x.size < 16) (hy : y.size < 16) (hle : (Df.whollyF (bl x) (bl y)).length ≤ (Df.endsF (bl x) (bl y)).length) :
    Calls Try.prog 9 #[.string x, .string y] w fun r w' => r = .returned (.string (str (Df.whollyF (bl x) (bl y)))) ∧ Below w.heap.size w w' := by
  have HW := Lib.hid (wholly_any w x y (by omega) (by omega))
  have HE := Lib.hid (fun w' => byEnds_any w' x y (by omega) (by omega))
  have HB := Lib.hid (fun w' => byBlocks_short w' x y hx hy)
  have HLE := Lib.hid hle
  clear hle
  go_enter Try.func9, Try.ntmps9
  go_upto_region 2 with (go_at_call 13; refine HW.out.mono ?_; rintro r w1 ⟨A1, n1, c1, hn1, rfl, ho1, hb1⟩; have HN1 := Lib.hid hn1; clear hn1)
  have H1 := Lib.hid (And.intro HN1.out (And.intro ho1 hb1))
  clear HN1 ho1 hb1
  go_wp2_with (first
    | (go_at_call 14; refine (HE.out _).mono ?_; rintro r w2 ⟨A2, n2, c2, hn2, rfl, ho2, hb2⟩; have HN2 := Lib.hid hn2; clear hn2)
    | (go_at_call 15; refine (HB.out _).mono ?_; rintro r w3 ⟨A3, n3, c3, hn3, rfl, ho3, hb3⟩; have HN3 := Lib.hid hn3; clear hn3))
  have H2 := Lib.hid (And.intro ((H1.out.2.1.below hb2).below hb3) ((H1.out.2.2.trans (hb2.mono H1.out.2.2.size)).trans (hb3.mono (Nat.le_trans H1.out.2.2.size hb2.size))))
  have hn12 : n1 ≤ n2 := by have := HLE.out; rw [← HN2.out, ← H1.out.1] at this; exact this
  have hn13 : n1 ≤ n3 := by rw [HN3.out, H1.out.1]; exact Nat.le_refl _
  have i2 : ¬ (n2 : Int) < n1 := by omega
  have i3 : ¬ (n3 : Int) < n1 := by omega
  clear ho2 ho3 hb2 hb3 hn12 hn13
  have hi0 : ∀ W, (Instr.index 39 (.agg #[.slice A2 n2 c2, .slice A3 n3 c3]) (.int .i64 0)).run Try.prog W = .ok (.slice A2 n2 c2) W := fun W => by kernel_rfl
  have hi1 : ∀ W, (Instr.index 39 (.agg #[.slice A2 n2 c2, .slice A3 n3 c3]) (.int .i64 1)).run Try.prog W = .ok (.slice A3 n3 c3) W := fun W => by kernel_rfl
  go_loopg [5, 18] 2 (fun gk u v wr => ∃ k : Nat, k ≤ 2 ∧ gk = 2 - k ∧ u = .slice A1 n1 c1 ∧ v = .int .i64 k ∧ wr = w3)
  case atStart => exact ⟨0, by omega, rfl, rfl, rfl, rfl⟩
  case round =>
    obtain ⟨k, hk, rfl, rfl, rfl, rfl⟩ := hrel
    match k, hk with
    | 0, _ =>
      go_wp2
      go_roundg 1
      case rel => exact ⟨1, by omega, rfl, rfl, rfl, rfl⟩
      case measure => omega
    | 1, _ =>
      go_wp2
      go_roundg 0
      case rel => exact ⟨2, by omega, rfl, rfl, rfl, rfl⟩
      case measure => omega
    | 2, _ =>
      have hst := own_str37 H2.out.1
      go_wp2
      go_ret
      exact ⟨rfl, H2.out.2⟩
end Go.Proofs.Ytcgaofndckiddaa.He
