/-
  Proved: WorkPipes returns true for every room and every row of calls, and changes nothing that was there.
  Conditions: none beside the row's own.
-/
import Derived.Test.YtmfejibllhccaaaYc
import Derived.Test.YtmfejibllhccaaaXi
import Derived.Test.YtmfejibllhccaaaWe
import Derived.Test.YtmfejibllhccaaaP
namespace Go.Proofs.Ytmfejibllhccaaa.workPipes
open Go.ChangeShapes Go.WideShapes Go.ChangeAt Go.RowKit
open Go.ChangeMaps (open_string)
set_option linter.unusedVariables false

open Hw Hx Hpi
set_option maxHeartbeats 4000000 in
set_option maxRecDepth 100000 in
theorem walk (room : Int) (As : Option Addr) (cs : Nat) (acts : List (Int × Int)) (W : World) (hrw : (Lit.int .i64 room).wf = true) (hs : Prs W W.heap.size As acts) (hsw : ∀ x ∈ acts, (Lit.int .i64 x.1).wf = true ∧ (Lit.int .i64 x.2).wf = true) :
    Calls Try.prog 3 #[.int .i64 room, .slice As acts.length cs] W fun e w' => e = .returned (.bool true) ∧ Below W.heap.size W w' := by
  have HA := Lib.hid hs
  have hmx : ∃ n : Nat, (n : Int) = max 1 (min room 65536) := ⟨(max 1 (min room 65536)).toNat, by omega⟩
  obtain ⟨n, hn⟩ := hmx
  have HN := Lib.hid hn
  clear hs hsw hn
  go_enter Try.func3, Try.ntmps3
  go_wp2_with fail
  refine (awake_any _).mono ?_
  rintro e w1 ⟨rfl, hb1⟩
  have HB1 := Lib.hid hb1
  clear hb1
  by_cases h1000 : acts.length ≤ 1000
  · have h1000' : ¬ (1000 : Int) < acts.length := by omega
    go_wp2_with fail
    refine (new_any w1 room n HN.out).mono ?_
    rintro e w2 ⟨b, F, rfl, hp, hb2, hF⟩
    have hpi : PI w1 b n false [] none 0 [] w2 := ⟨[], F, [], hp, rfl, .inl ⟨rfl, rfl, rfl, rfl⟩, (fun k _ hk => by cases hk), hF, (fun j hj => by cases hj), hb2⟩
    have HP := Lib.hid hpi
    clear hp hb2 hF hpi
    go_upto_region 6 with fail
    go_cut [6] (fun s6 wx => s6 = .int .i64 (n : Int) ∧ wx = w2)
    case first =>
      go_wp2
      all_goals go_meet
      all_goals (refine ⟨?_, rfl⟩; have hnn := HN.out; congr 1; omega)
    case rest =>
      obtain ⟨rfl, rfl⟩ := hcut
      go_wp2
      go_loopg [7, 8, 9] acts.length (fun g u7 u8 i wr => ∃ (k : Nat) (cl : Bool) (A : Option Addr) (c : Nat) (l : List Int), k ≤ acts.length ∧ g = acts.length - k ∧ i = .int .i64 k ∧ u7 = .bool cl ∧ u8 = .slice A l.length c ∧ l.length ≤ k ∧ PI w1 b n cl l A c l wr)
      case atStart => exact ⟨0, false, none, 0, [], Nat.zero_le _, rfl, rfl, rfl, rfl, Nat.le_refl _, HP.out⟩
      case round =>
        obtain ⟨k, cl, A, c, l, hk, rfl, rfl, rfl, rfl, hlk, hpi⟩ := hrel
        by_cases hlt : k < acts.length
        · have h1 : (k : Int) < acts.length := by omega
          have h0 : (0 : Int) ≤ k := by omega
          have hbl := HB1.out.trans (hpi.top.mono HB1.out.size)
          obtain ⟨ad, hA, hB, hc1, hc2⟩ := (HA.out.below hbl) k hlt
          subst hA
          generalize (acts.getD k (0, 0)).1 = x at *
          generalize (acts.getD k (0, 0)).2 = y at *
          have HPI := Lib.hid hpi
          clear hpi hbl HP
          have hBX : Below wr.heap.size wr (wr.alloc (.cells #[.int .i64 x, .int .i64 y] 28)) ∧ (wr.alloc (.cells #[.int .i64 x, .int .i64 y] 28)).heap[wr.heap.size]? = some (.cells #[.int .i64 x, .int .i64 y] 28) := ⟨(Below.refl _ wr).alloc (Nat.le_refl _) _, heap_alloc_new wr _⟩
          have HBX := Lib.hid hBX
          clear hBX
          by_cases hx0 : x = 0
          · subst hx0
            cases cl with
            | true =>
              have HC := Lib.hid (pi_send_no (HPI.out.below HBX.out.1) y (.inl rfl))
              clear HPI
              go_wp2_with fail
              refine HC.out.mono ?_
              rintro e w3 ⟨rfl, hp3, _⟩
              have HP3 := Lib.hid hp3
              clear hp3 HC HBX
              go_wp2_with fail
              refine (pi_left HP3.out).mono ?_
              rintro e w9 ⟨rfl, rfl⟩
              go_wp2
              go_roundg (acts.length - (k + 1))
              case rel => exact ⟨k + 1, true, A, c, l, by omega, rfl, by go_num, rfl, rfl, by (try simp only [List.length_append, List.length_cons, List.length_nil]); omega, HP3.out⟩
              case measure => omega
            | false =>
              by_cases hr : l.length < n
              · have HC := Lib.hid (bs_send_yes (HPI.out.beside HBX.out.1 HBX.out.2) y hr)
                clear HPI
                go_wp2_with fail
                refine HC.out.mono ?_
                rintro e w3 ⟨rfl, hp3⟩
                have c3 : w3.cell? ⟨wr.heap.size, 1, none⟩ = some (.int .i64 y) := by rw [cell_of_cells hp3.at]; rfl
                have hb4 : Below w3.heap.size w3 (w3.alloc (.cells #[.int .i64 y] 3)) := (Below.refl _ w3).alloc (Nat.le_refl _) _
                obtain ⟨A4, c4, w4, hrun, hp4⟩ := pi_append (hp3.pi.below hb4) y (by omega) ⟨w3.heap.size, 0, none⟩ (by rw [cell_of_cells (heap_alloc_new w3 _)]; rfl) 1 26
                have HRUN := Lib.hid hrun
                have HP3 := Lib.hid hp4
                clear hp3 HC HBX hb4 hrun hp4
                go_wp2_with (at_builtin; refine wpList_append_run rfl (.tmp 53) (.tmp 56) 26 26 rfl _ _ _ w4 rfl rfl HRUN.out ?_)
                refine (pi_left HP3.out).mono ?_
                rintro e w9 ⟨rfl, rfl⟩
                go_wp2
                go_roundg (acts.length - (k + 1))
                case rel => exact ⟨k + 1, false, A4, c4, l ++ [y], by omega, rfl, by go_num, rfl, by simp, by (try simp only [List.length_append, List.length_cons, List.length_nil]); omega, HP3.out⟩
                case measure => omega
              · have hr' : n ≤ l.length := by omega
                have HC := Lib.hid (pi_send_no (HPI.out.below HBX.out.1) y (.inr hr'))
                clear HPI
                go_wp2_with fail
                refine HC.out.mono ?_
                rintro e w3 ⟨rfl, hp3, _⟩
                have HP3 := Lib.hid hp3
                clear hp3 HC HBX
                go_wp2_with fail
                refine (pi_left HP3.out).mono ?_
                rintro e w9 ⟨rfl, rfl⟩
                go_wp2
                go_roundg (acts.length - (k + 1))
                case rel => exact ⟨k + 1, false, A, c, l, by omega, rfl, by go_num, rfl, rfl, by (try simp only [List.length_append, List.length_cons, List.length_nil]); omega, HP3.out⟩
                case measure => omega
          · have hb0 : (x == 0) = false := by simpa using hx0
            by_cases hx1 : x = 1
            · subst hx1
              cases l with
              | nil =>
                have HC := Lib.hid (pi_next_none (HPI.out.below HBX.out.1))
                have HP3 := Lib.hid (HPI.out.below HBX.out.1)
                clear HPI HBX
                go_wp2_with fail
                refine HC.out.mono ?_
                rintro e w3 ⟨rfl, rfl⟩
                clear HC
                go_wp2_with fail
                refine (pi_left HP3.out).mono ?_
                rintro e w9 ⟨rfl, rfl⟩
                go_wp2
                go_roundg (acts.length - (k + 1))
                case rel => exact ⟨k + 1, cl, A, c, [], by omega, rfl, by go_num, rfl, rfl, by simp, HP3.out⟩
                case measure => omega
              | cons z l =>
                have HC := Lib.hid (pi_next_some (HPI.out.below HBX.out.1))
                clear HPI HBX
                go_wp2_with fail
                refine HC.out.mono ?_
                rintro e w3 ⟨rfl, hp3⟩
                obtain ⟨g, off, rfl, cz, hlc, hcm, hp4⟩ := pi_tail hp3
                have hcm' : c ≤ 9223372036854775807 := by unfold maxLen at hcm; omega
                have hl1 : (1 : Int) ≤ ((l.length + 1 : Nat) : Int) := by omega
                have hl2 : (0 : Int) < ((l.length + 1 : Nat) : Int) := by omega
                simp only [List.length_cons] at hlk
                clear hp3 HC
                by_cases hc1 : c = 1
                · subst hc1
                  obtain rfl : l = [] := List.eq_nil_of_length_eq_zero (by omega)
                  rw [if_pos rfl] at hp4
                  have HP3 := Lib.hid hp4
                  clear hp4
                  go_wp2_with fail
                  refine (pi_left HP3.out).mono ?_
                  rintro e w9 ⟨rfl, rfl⟩
                  go_wp2
                  go_roundg (acts.length - (k + 1))
                  case rel => exact ⟨k + 1, cl, some ⟨g, off, none⟩, 0, [], by omega, rfl, by go_num, rfl, by simp, by simp, HP3.out⟩
                  case measure => omega
                · rw [if_neg hc1] at hp4
                  have HP3 := Lib.hid hp4
                  clear hp4
                  go_wp2_with fail
                  refine (pi_left HP3.out).mono ?_
                  rintro e w9 ⟨rfl, rfl⟩
                  go_wp2
                  go_roundg (acts.length - (k + 1))
                  case rel => exact ⟨k + 1, cl, some ⟨g, off + 1, none⟩, c - 1, l, by omega, rfl, by go_num, rfl, by simp, by (try simp only [List.length_append, List.length_cons, List.length_nil]); omega, HP3.out⟩
                  case measure => omega
            · have hb1 : (x == 1) = false := by simpa using hx1
              by_cases hx2 : x = 2
              · subst hx2
                have HC := Lib.hid (pi_close (HPI.out.below HBX.out.1))
                clear HPI HBX
                go_wp2_with fail
                refine HC.out.mono ?_
                rintro e w3 ⟨rfl, hp3⟩
                have HP3 := Lib.hid hp3
                clear HC hp3
                go_wp2_with fail
                refine (pi_left HP3.out).mono ?_
                rintro e w9 ⟨rfl, rfl⟩
                go_wp2
                go_roundg (acts.length - (k + 1))
                case rel => exact ⟨k + 1, true, A, c, l, by omega, rfl, by go_num, rfl, rfl, by (try simp only [List.length_append, List.length_cons, List.length_nil]); omega, HP3.out⟩
                case measure => omega
              · have hb2 : (x == 2) = false := by simpa using hx2
                have HP3 := Lib.hid (HPI.out.below HBX.out.1)
                clear HPI HBX
                go_wp2_with fail
                refine (pi_left HP3.out).mono ?_
                rintro e w9 ⟨rfl, rfl⟩
                go_wp2
                go_roundg (acts.length - (k + 1))
                case rel => exact ⟨k + 1, cl, A, c, l, by omega, rfl, by go_num, rfl, rfl, by (try simp only [List.length_append, List.length_cons, List.length_nil]); omega, HP3.out⟩
                case measure => omega
        · obtain rfl : k = acts.length := by omega
          have HPI := Lib.hid hpi
          clear hpi
          go_wp2
          go_ret
          exact ⟨rfl, HB1.out.trans (HPI.out.top.mono HB1.out.size)⟩
  · have h1000' : (1000 : Int) < acts.length := by omega
    go_wp2
    go_ret
    exact ⟨rfl, HB1.out⟩

theorem own : ownKnob Try.prog.godebug = none := by kernel_rfl

set_option maxRecDepth 100000 in
theorem lifted (os : Os) (started : os.Started) (H : Type) (enc : TypeId × Value → H) :
    ReturnsInHanded {} Try.checked os 3 .any (Rows.workPipesSpec.pre6 enc Try.prog Try.f3 Rows.workPipesRow.domain false) (Rows.workPipesSpec.post enc Try.prog Try.f3 false true false false) := by
  refine returnsInHanded_of_change (C := Try.checked) own started (by kernel_rfl) Try.func3
    (ChangeSpec.witness6 (enc := enc) (C := Try.checked) false ⟨#[], #[.int .i64 0, .slice none 0 0], []⟩ 8 (by kernel_rfl) (by kernel_rfl) (by kernel_rfl) (by kernel_rfl)) ?_
  intro W base args ds gs before hval0 hW hcnd _
  have hval : ∀ (j : Nat) t v, Try.f3.params[j]? = some t → args[j]? = some v → Value.okWide Try.prog W .any base t v := hval0
  have hW' := hW
  obtain ⟨p, q, hA0, hV, rfl, hfz, hnd⟩ := hW
  have hA : DataW.TrodAll enc Try.prog W 0 (fun _ => true) true Try.f3.params.toList args.toList ds p := hA0
  rw [Try.params3] at hA hval
  obtain ⟨v0, vs0, d0, ds0, p0, q0, hargs, rfl, rfl, h0, r0⟩ := trodAll_cons hA
  obtain ⟨v1, vs1, d1, ds1, p1, q1, rfl, rfl, rfl, h1, r1⟩ := trodAll_cons r0
  obtain ⟨rfl, rfl, rfl⟩ := trodAll_nil r1
  obtain rfl : args = #[v0, v1] := by cases args; simp_all
  obtain ⟨rfl, rfl⟩ := trodVars_none hV
  obtain ⟨a0, rfl, rfl, rfl, w0⟩ := open_int Try.underlying3 (hval 0 3 v0 rfl rfl) h0
  obtain ⟨A1, l1, c1, rfl, hr1, hw1⟩ := Hw.open_acts_arg (hval 1 22 v1 rfl rfl) h1
  clear hA0 hval0
  refine (walk a0 A1 c1 l1 W w0 hr1 hw1).mono fun e W' ⟨he, hg⟩ => ?_
  subst he
  exact ⟨_, rfl, law_post Try.laid (by kernel_rfl) (by kernel_rfl) Try.underlying4 rfl rfl hW' hg⟩

theorem over : Rows.workPipesRow.holds Try.pinned (OpenSpec.ofChange Rows.workPipesSpec) :=
  OpenClaim.holds_of_wide 3 Try.f3 rfl rfl rfl rfl rfl rfl rfl ⟨rfl, rfl, rfl, rfl, rfl⟩ rfl rfl rfl rfl rfl (by kernel_rfl) Try.func3 (by kernel_rfl)
    (of_decide_eq_true (by kernel_rfl)) (by unfold Func.isWrapper; first | (rw [if_pos (by decide +kernel)]; kernel_rfl) | (rw [if_neg (by decide +kernel)]; exact ⟨rfl, rfl⟩))
    (fun os started H enc _ => lifted os started H enc)
end Go.Proofs.Ytmfejibllhccaaa.workPipes

namespace Go.Proofs.Ytmfejibllhccaaa
theorem workPipes_holds : Rows.WorkPipesSaid := workPipes.over
end Go.Proofs.Ytmfejibllhccaaa
