/-
  Press; the statements' awake (layer 8).
-/
import Derived.Test.YtepndjlgjaeonaaGm
namespace Go.Proofs.Ytepndjlgjaeonaa.Hg
open Go.RowKit Hw
set_option linter.unusedVariables false

/-- a text that was pressed -/
def Pressed (s p : ByteArray) : Prop := p.size ≤ s.size + 1 ∧ ((∃ cs, bl p = 1 :: cs ∧ Sq.Says cs (bl s)) ∨ bl p = 0 :: bl s)
theorem pressed_open {s p : ByteArray} (h : Pressed s p) (M : Nat) : Sq.openF (bl p) M = if s.size ≤ M then (bl s, 0) else ([], 9) := by
  rcases h.2 with ⟨cs, h1, h2⟩ | h1
  · rw [h1, Sq.open_says h2, bl_length]
  · rw [h1, Sq.open_plain, bl_length]
theorem ki_none (s : ByteArray) : KI (.map []) s 0 0 := fun q hq => by cases hq

theorem press_laid (w : World) (s : ByteArray) : PrSt (((w.alloc (.map #[] 0)).alloc (.cells #[.int .u8 1] 5)).alloc (.cells #[.string s, .map (some w.heap.size), .slice (some ⟨w.heap.size + 1, 0, none⟩) 1 1] 39)) w.heap.size (w.heap.size + 1 + 1) w.heap.size s 0 (.map []) [] := by
  refine ⟨some ⟨w.heap.size + 1, 0, none⟩, 1, [], ⟨by omega, Nat.le_refl _, ?_, ?_, ?_⟩, .none⟩
  · have := heap_alloc_new ((w.alloc (.map #[] 0)).alloc (.cells #[.int .u8 1] 5)) (.cells #[.string s, .map (some w.heap.size), .slice (some ⟨w.heap.size + 1, 0, none⟩) 1 1] 39)
    rwa [World.size_alloc, World.size_alloc] at this
  · have h := own_laid (w.alloc (.map #[] 0)) [1] (by simp) (by simp)
    rw [World.size_alloc] at h
    exact (Own.mono h (by omega)).alloc _
  · exact (((World.ownsMap_made w Try.prog 52 (plainElem Try.prog 3)).alloc _).alloc _)

set_option maxHeartbeats 2000000 in
set_option maxRecDepth 100000 in
theorem press_any (w : World) (s : ByteArray) (hs : s.size ≤ 100000) :
    Calls Try.prog 10 #[.string s] w fun r w' => ∃ p : ByteArray, r = .returned (.string p) ∧ Pressed s p ∧ Below w.heap.size w w' := by
  have HR := Lib.hid (run_any _ _ _ _ s 0 (.map []) (press_laid w s) rfl hs (ki_none s))
  have HB0 := Lib.hid ((((Below.refl w.heap.size w).alloc (Nat.le_refl _) (.map #[] 0)).alloc (by simp) (.cells #[.int .u8 1] 5)).alloc (by simp; omega) (.cells #[.string s, .map (some w.heap.size), .slice (some ⟨w.heap.size + 1, 0, none⟩) 1 1] 39))
  have hmm := @run_makeMap Try.prog
  go_enter Try.func10, Try.ntmps10
  go_wp2_with fail
  refine HR.out.mono ?_
  rintro r w2 ⟨rfl, ⟨n2, D2, A, c, cs, hp, hsy⟩, hb⟩
  have HB := Lib.hid (HB0.out.trans hb)
  have c2 := hp.c2
  have hst := hp.own.str
  have HP := Lib.hid (And.intro hp hsy)
  obtain ⟨ol, hol⟩ : ∃ ol, ((1 : UInt8) :: cs).length = ol := ⟨_, rfl⟩
  have HSZ := Lib.hid (show (str ((1 : UInt8) :: cs)).size = ol by rw [str_size, hol])
  have HBL := Lib.hid (bl_str ((1 : UInt8) :: cs))
  rw [hol] at c2 hst
  clear hp hsy hb HR HB0
  by_cases hL : ol ≤ s.size
  · have hd : decide ((ol : Int) ≤ s.size) = true := decide_eq_true (by omega)
    have hli : (ol : Int) ≤ s.size := by omega
    generalize str ((1 : UInt8) :: cs) = p at *
    go_wp2
    go_ret
    exact ⟨p, rfl, ⟨by rw [HSZ.out]; omega, .inl ⟨cs, HBL.out, HP.out.2⟩⟩, HB.out⟩
  · have hd : decide ((ol : Int) ≤ s.size) = false := decide_eq_false (by omega)
    have hli : ¬ (ol : Int) ≤ s.size := by omega
    have hst2 : (convert 33 9 (.slice (some ⟨w2.heap.size, 0, none⟩) 1 1)).run Try.prog (w2.alloc (.cells #[.int .u8 0] 5)) = .ok (.string (str [0])) (w2.alloc (.cells #[.int .u8 0] 5)) := (own_laid w2 [0] (by simp) (by simp)).str
    have hz : (str [0]).size = 1 := by rw [str_size]; rfl
    have HZB := Lib.hid (bl_str [(0 : UInt8)])
    have HB2 := Lib.hid (HB.out.alloc HB.out.size (.cells #[.int .u8 0] 5))
    generalize str [(0 : UInt8)] = z at *
    clear hst
    go_wp2
    go_ret
    exact ⟨_, rfl, ⟨by rw [ByteArray.size_append, hz]; omega, .inr (by rw [bl_append, HZB.out]; rfl)⟩, HB2.out⟩

set_option maxHeartbeats 2000000 in
set_option maxRecDepth 100000 in
theorem awake_any (w : World) : Calls Try.prog 6 #[] w fun r w' => r = .returned (.bool true) ∧ Below w.heap.size w w' := by
  have H1 := Lib.hid (fun w1 : World => open_any ⟨#[1, 0, 97, 130, 0, 1]⟩ 100 w1 (by omega) (by decide))
  have H2 := Lib.hid (fun w1 : World => open_any ⟨#[2]⟩ 100 w1 (by omega) (by decide))
  have H3 := Lib.hid (fun w1 : World => press_any w1 ⟨#[104, 101, 108, 108, 111]⟩ (by decide))
  have a1 : ans (Sq.openF (bl ⟨#[1, 0, 97, 130, 0, 1]⟩) (100 : Int).toNat) = .tuple #[.string ⟨#[97, 97, 97, 97, 97, 97, 97]⟩, .int .i64 0] := by kernel_rfl
  have a2 : ans (Sq.openF (bl ⟨#[2]⟩) (100 : Int).toNat) = .tuple #[.string ⟨#[]⟩, .int .i64 3] := by kernel_rfl
  rw [a1] at H1
  rw [a2] at H2
  clear a1 a2
  have H4 := Lib.hid (fun (w1 : World) (p : ByteArray) (hp : Pressed ⟨#[104, 101, 108, 108, 111]⟩ p) => show Calls Try.prog 7 #[.string p, .int .i64 100] w1 fun e w' => e = .returned (.tuple #[.string ⟨#[104, 101, 108, 108, 111]⟩, .int .i64 0]) ∧ Below w1.heap.size w1 w' from
    (open_any p 100 w1 (by omega) (by have h9 : p.size ≤ 5 + 1 := hp.1; omega)).mono fun r w' hr => ⟨by rw [hr.1, pressed_open hp]; rfl, hr.2⟩)
  go_enter Try.func6, Try.ntmps6
  go_wp2_with fail
  refine (H1.out _).mono ?_
  rintro r w1 ⟨rfl, hb1⟩
  go_wp2_with fail
  refine (H2.out _).mono ?_
  rintro r w2 ⟨rfl, hb2⟩
  go_wp2_with fail
  refine (H3.out _).mono ?_
  rintro r w3 ⟨p, rfl, hp, hb3⟩
  go_wp2_with fail
  refine (H4.out _ p hp).mono ?_
  rintro r w4 ⟨rfl, hb4⟩
  have HB := Lib.hid (((hb1.trans (hb2.mono hb1.size)).trans (hb3.mono (Nat.le_trans hb1.size hb2.size))).trans (hb4.mono (Nat.le_trans (Nat.le_trans hb1.size hb2.size) hb3.size)))
  clear hb1 hb2 hb3 hb4 H1 H2 H3 H4 hp
  go_wp2
  go_ret
  exact ⟨rfl, HB.out⟩
end Go.Proofs.Ytepndjlgjaeonaa.Hg
