/-
  Proved: WorkLists returns true for every row of calls, and changes nothing that was there.
  Conditions: none beside the row's own.
-/
import Derived.Test.YtmfejibllhccaaaXk
import Derived.Test.YtmfejibllhccaaaXl
import Derived.Test.YtmfejibllhccaaaXi
import Derived.Test.YtmfejibllhccaaaWe
import Derived.Test.YtmfejibllhccaaaWg
import Derived.Test.YtmfejibllhccaaaSt
import Derived.Test.YtmfejibllhccaaaHeld
import Derived.Test.YtmfejibllhccaaaP
namespace Go.Proofs.Ytmfejibllhccaaa.workLists
open Go.ChangeShapes Go.WideShapes Go.ChangeAt Go.RowKit
open Go.ChangeMaps (open_string)
set_option linter.unusedVariables false

open Hw Hx
set_option maxHeartbeats 4000000 in
set_option maxRecDepth 100000 in
theorem walk (As : Option Addr) (cs : Nat) (acts : List (Int × Int)) (W : World) (hs : Prs W W.heap.size As acts) (hsw : ∀ x ∈ acts, (Lit.int .i64 x.1).wf = true ∧ (Lit.int .i64 x.2).wf = true) :
    Calls Try.prog 4 #[.slice As acts.length cs] W fun e w' => e = .returned (.bool true) ∧ Below W.heap.size W w' := by
  have HA := Lib.hid (And.intro hs hsw)
  clear hs hsw
  go_enter Try.func4, Try.ntmps4
  go_wp2_with fail
  refine (awake_any _).mono ?_
  rintro e w1 ⟨rfl, hb1⟩
  have HB1 := Lib.hid hb1
  clear hb1
  by_cases h500 : acts.length ≤ 500
  · have h500' : ¬ (500 : Int) < acts.length := by omega
    have hst : Holds w1 (L4 w1.heap.size (w1.heap.size + 1) [] [] none 0 [] none 0 []) ((w1.alloc (.cells #[.slice none 0 0] 35)).alloc (.cells #[.map none, .slice none 0 0] 38)) := by
      have ht : (w1.alloc (.cells #[.slice none 0 0] 35)).heap[w1.heap.size]? = some (.cells #[.slice none 0 0] 35) := heap_alloc_new w1 _
      have hs : ((w1.alloc (.cells #[.slice none 0 0] 35)).alloc (.cells #[.map none, .slice none 0 0] 38)).heap[w1.heap.size + 1]? = some (.cells #[.map none, .slice none 0 0] 38) := by
        have := heap_alloc_new (w1.alloc (.cells #[.slice none 0 0] 35)) (.cells #[.map none, .slice none 0 0] 38)
        rwa [World.size_alloc] at this
      have ht2 := (Below.heap_alloc (w1.alloc (.cells #[.slice none 0 0] 35)) (.cells #[.map none, .slice none 0 0] 38) w1.heap.size (by simp)).trans ht
      refine ⟨[w1.heap.size] ++ ([w1.heap.size + 1] ++ ([] ++ [])), ⟨[w1.heap.size], _, rfl, (fun k hk h => by simp at hk h; omega), ⟨_, _, ht2, World.ownsRow_nil _ _ _ _, by simp [Value.ownBlock], rfl⟩, [w1.heap.size + 1], _, rfl, (fun k hk h => by simp at h), ⟨_, .inl ⟨hs, rfl, rfl⟩⟩, [], [], rfl, (fun k hk h => by cases hk), ⟨rfl, World.ownsRow_nil _ _ _ _⟩, ⟨rfl, World.ownsRow_nil _ _ _ _⟩⟩, fun k hk => by simp at hk; omega, ((Below.refl _ w1).alloc (Nat.le_refl _) _).alloc (by simp) _⟩
    have HST := Lib.hid hst
    clear hst
    go_wp2
    go_loopg [5, 6, 7] acts.length (fun g u5 u6 i wr => ∃ (k : Nat) (Al : Option Addr) (cl : Nat) (l : List Int) (Ak : Option Addr) (ck : Nat) (ks : List Int), k ≤ acts.length ∧ g = acts.length - k ∧ i = .int .i64 k ∧ u5 = .slice Al l.length cl ∧ u6 = .slice Ak ks.length ck ∧ l.length ≤ k ∧ ks.length ≤ k ∧ Holds w1 (L4 w1.heap.size (w1.heap.size + 1) l ks Al cl l Ak ck ks) wr)
    case atStart => exact ⟨0, none, 0, [], none, 0, [], Nat.zero_le _, rfl, rfl, rfl, rfl, Nat.le_refl _, Nat.le_refl _, HST.out⟩
    case round =>
      obtain ⟨k, Al, cl, l, Ak, ck, ks, hk, rfl, rfl, rfl, rfl, hlk, hkk, hh⟩ := hrel
      by_cases hlt : k < acts.length
      · have h1 : (k : Int) < acts.length := by omega
        have h0 : (0 : Int) ≤ k := by omega
        have hbl := HB1.out.trans (hh.top.mono HB1.out.size)
        obtain ⟨ad, hA, hB, hc1, hc2⟩ := (HA.out.1.below hbl) k hlt
        have hyw := (HA.out.2 _ (getD_prs hlt)).2
        subst hA
        generalize (acts.getD k (0, 0)).1 = x at *
        generalize (acts.getD k (0, 0)).2 = y at *
        have hLB := hh.add (T := Bx wr.heap.size (.cells #[.int .i64 x, .int .i64 y] 28)) l4_part ((Below.refl _ wr).alloc (Nat.le_refl _) (.cells #[.int .i64 x, .int .i64 y] 28)) (A := [wr.heap.size]) ⟨rfl, heap_alloc_new wr _⟩ (fun j hj => by simp at hj; omega)
        have H2 := Lib.hid (show LB w1 wr.heap.size _ w1.heap.size (w1.heap.size + 1) l ks Al cl l Ak ck ks _ from hLB)
        clear hh hLB hbl HST
        by_cases hx0 : x = 0
        · subst hx0
          go_wp2_with fail
          refine (lb_push H2.out y (by omega)).mono ?_
          rintro e w3 ⟨rfl, h3⟩
          have c3 : w3.cell? ⟨wr.heap.size, 1, none⟩ = some (.int .i64 y) := by rw [cell_of_cells h3.bx]; rfl
          obtain ⟨A4, c4', w4, hrun, h4⟩ := lb_app_l (lb_below h3 ((Below.refl _ w3).alloc (Nat.le_refl _) (.cells #[.int .i64 y] 3))) y (by omega) ⟨w3.heap.size, 0, none⟩ (by rw [cell_of_cells (heap_alloc_new w3 _)]; rfl) 1 26
          have c4 : w4.cell? ⟨wr.heap.size, 1, none⟩ = some (.int .i64 y) := by rw [cell_of_cells h4.bx]; rfl
          have HRUN := Lib.hid hrun
          have H4 := Lib.hid h4
          clear h3 h4 hrun H2
          go_wp2_with (at_builtin; refine wpList_append_run rfl (.tmp 34) (.tmp 37) 26 26 rfl _ _ _ w4 rfl rfl HRUN.out ?_)
          clear HRUN c3
          by_cases hin : y ∈ ks
          · skip
            refine wp_region_seq (fun W => W.cell? ⟨wr.heap.size, 1, none⟩ = some (.int .i64 y)) [(0, false, 0), (1, false, 1), (3, false, 3), (4, false, 11), (5, false, 27), (2, true, 59), (6, true, 63), (7, false, 127), (8, false, 255)]
              9 (by kernel_rfl) (by kernel_rfl) (by kernel_rfl) (fun d _ _ _ _ h => by cases d <;> exact h) (by kernel_rfl) (by kernel_rfl) (by rw [World.cell?_drew]; exact c4) ?_
            have h4d := lb_below H4.out (Below.refl _ w4).drew
            have H4D := Lib.hid h4d
            clear h4d H4 c4
            generalize w4.drew = w5 at *
            refine seqH_take (.pointer (some ⟨wr.heap.size, 1, none⟩)) rfl (Or.inl ⟨by rfl, fun W hW => by go_simp⟩) ?_
            go_simp
            refine seqH_take (.int .i64 y) rfl (Or.inl ⟨by rfl, fun W hW => by have hcell := hW; clear hW; go_simp⟩) ?_
            go_simp
            refine seqH_take (.slice Ak ks.length ck) rfl (Or.inl ⟨by rfl, fun W hW => by go_simp⟩) ?_
            go_simp
            refine seqH_take (.pointer (some ⟨wr.heap.size, 1, none⟩)) rfl (Or.inl ⟨by rfl, fun W hW => by go_simp⟩) ?_
            go_simp
            refine seqH_take (.int .i64 y) rfl (Or.inl ⟨by rfl, fun W hW => by have hcell := hW; clear hW; go_simp⟩) ?_
            go_simp
            refine seqH_call rfl (by rfl) (fun K hK => ?_)
            have HK := Lib.hid hK
            clear hK
            go_simp
            refine (lb_add_old H4D.out y hyw hin).mono ?_
            rintro e w6 ⟨rfl, h6⟩
            have H6 := Lib.hid h6
            have c6 : w6.cell? ⟨wr.heap.size, 1, none⟩ = some (.int .i64 y) := by rw [cell_of_cells H6.out.bx]; rfl
            clear h6 H4D
            refine HK.out _ _ c6 ?_
            clear HK K
            go_simp
            refine seqH_call rfl (by rfl) (fun K hK => ?_)
            have HK := Lib.hid hK
            clear hK
            go_simp
            refine (lb_in H6.out y (by omega)).mono ?_
            rintro e w7 ⟨rfl, rfl⟩
            rw [decide_eq_true hin]
            refine HK.out _ _ c6 ?_
            clear HK K
            go_simp
            refine seqH_take (.bool false) rfl (Or.inl ⟨by rfl, fun W hW => by go_simp⟩) ?_
            go_simp
            refine seqH_take (.bool false) rfl (Or.inl ⟨by rfl, fun W hW => by go_simp⟩) ?_
            go_simp
            refine seqH_done ?_
            go_wp2_with fail
            refine (lb_in H6.out y (by omega)).mono ?_
            rintro e w8 ⟨rfl, rfl⟩
            rw [decide_eq_true hin]
            have H3 := Lib.hid H6.out
            clear H6 c6
            go_wp2_with fail
            refine (lb_tlen H3.out).mono ?_
            rintro e w8 ⟨rfl, rfl⟩
            go_wp2_with fail
            refine (lb_slen H3.out (by omega)).mono ?_
            rintro e w9 ⟨rfl, hb9⟩
            have H4 := Lib.hid (lb_below H3.out hb9).tail
            clear hb9 H3
            go_wp2
            go_roundg (acts.length - (k + 1))
            case rel => exact ⟨k + 1, A4, c4', l ++ [y], Ak, ck, ks, by omega, rfl, by go_num, by simp, rfl, by (try simp only [List.length_append, List.length_cons, List.length_nil]); omega, by omega, H4.out⟩
            case measure => omega
          · skip
            refine wp_region_seq (fun W => W.cell? ⟨wr.heap.size, 1, none⟩ = some (.int .i64 y)) [(0, false, 0), (1, false, 1), (3, false, 3), (4, false, 11), (5, false, 27), (2, true, 59), (6, true, 63), (7, false, 127), (8, false, 255)]
              9 (by kernel_rfl) (by kernel_rfl) (by kernel_rfl) (fun d _ _ _ _ h => by cases d <;> exact h) (by kernel_rfl) (by kernel_rfl) (by rw [World.cell?_drew]; exact c4) ?_
            have h4d := lb_below H4.out (Below.refl _ w4).drew
            have H4D := Lib.hid h4d
            clear h4d H4 c4
            generalize w4.drew = w5 at *
            refine seqH_take (.pointer (some ⟨wr.heap.size, 1, none⟩)) rfl (Or.inl ⟨by rfl, fun W hW => by go_simp⟩) ?_
            go_simp
            refine seqH_take (.int .i64 y) rfl (Or.inl ⟨by rfl, fun W hW => by have hcell := hW; clear hW; go_simp⟩) ?_
            go_simp
            refine seqH_take (.slice Ak ks.length ck) rfl (Or.inl ⟨by rfl, fun W hW => by go_simp⟩) ?_
            go_simp
            refine seqH_take (.pointer (some ⟨wr.heap.size, 1, none⟩)) rfl (Or.inl ⟨by rfl, fun W hW => by go_simp⟩) ?_
            go_simp
            refine seqH_take (.int .i64 y) rfl (Or.inl ⟨by rfl, fun W hW => by have hcell := hW; clear hW; go_simp⟩) ?_
            go_simp
            refine seqH_call rfl (by rfl) (fun K hK => ?_)
            have HK := Lib.hid hK
            clear hK
            go_simp
            refine (lb_add_new H4D.out y hyw hin (by omega)).mono ?_
            rintro e w6 ⟨rfl, h6⟩
            have H6 := Lib.hid h6
            have c6 : w6.cell? ⟨wr.heap.size, 1, none⟩ = some (.int .i64 y) := by rw [cell_of_cells H6.out.bx]; rfl
            clear h6 H4D
            refine HK.out _ _ c6 ?_
            clear HK K
            go_simp
            refine seqH_call rfl (by rfl) (fun K hK => ?_)
            have HK := Lib.hid hK
            clear hK
            go_simp
            refine (lb_in H6.out y (by omega)).mono ?_
            rintro e w7 ⟨rfl, rfl⟩
            rw [decide_eq_false hin]
            refine HK.out _ _ c6 ?_
            clear HK K
            go_simp
            refine seqH_take (.bool true) rfl (Or.inl ⟨by rfl, fun W hW => by go_simp⟩) ?_
            go_simp
            refine seqH_take (.bool false) rfl (Or.inl ⟨by rfl, fun W hW => by go_simp⟩) ?_
            go_simp
            refine seqH_done ?_
            go_wp2_with fail
            refine (lb_in H6.out y (by omega)).mono ?_
            rintro e w8 ⟨rfl, rfl⟩
            rw [decide_eq_false hin]
            obtain ⟨A9, c9, w9, hrun, h9⟩ := lb_app_k (lb_below H6.out ((Below.refl _ _).alloc (Nat.le_refl _) (.cells #[.int .i64 y] 3))) y (by omega) ⟨_, 0, none⟩ (by rw [cell_of_cells (heap_alloc_new _ _)]; rfl) 1 26
            have HRUN := Lib.hid hrun
            have H3 := Lib.hid h9
            clear hrun h9 H6
            go_wp2_with (at_builtin; refine wpList_append_run rfl (.tmp 53) (.tmp 56) 26 26 rfl _ _ _ w9 rfl rfl HRUN.out ?_)
            clear HRUN
            refine (lb_tlen H3.out).mono ?_
            rintro e w8 ⟨rfl, rfl⟩
            go_wp2_with fail
            refine (lb_slen H3.out (by (try simp only [List.length_append, List.length_cons, List.length_nil]); omega)).mono ?_
            rintro e w9 ⟨rfl, hb9⟩
            have H4 := Lib.hid (lb_below H3.out hb9).tail
            clear hb9 H3
            go_wp2
            go_roundg (acts.length - (k + 1))
            case rel => exact ⟨k + 1, A4, c4', l ++ [y], A9, c9, ks ++ [y], by omega, rfl, by go_num, by simp, by simp, by (try simp only [List.length_append, List.length_cons, List.length_nil]); omega, by (try simp only [List.length_append, List.length_cons, List.length_nil]); omega, H4.out⟩
            case measure => omega
        · have hb0 : (x == 0) = false := by simpa using hx0
          have cases_l : l = [] ∨ ∃ l' z, l = l' ++ [z] := by
            cases hl : l.reverse with
            | nil => exact .inl (List.reverse_eq_nil_iff.1 hl)
            | cons z r => exact .inr ⟨r.reverse, z, by rw [← List.reverse_reverse l, hl]; simp⟩
          rcases cases_l with rfl | ⟨l, z, rfl⟩
          · simp only [List.length_nil]
            go_wp2_with fail
            refine (lb_pop_nil H2.out).mono ?_
            rintro e w4 ⟨rfl, hw4⟩
            rw [← hw4] at H2
            have H4 := Lib.hid (show LB w1 wr.heap.size _ w1.heap.size (w1.heap.size + 1) [] ks Al cl [] Ak ck ks w4 from H2.out)
            have c4 : w4.cell? ⟨wr.heap.size, 1, none⟩ = some (.int .i64 y) := by rw [cell_of_cells H4.out.bx]; rfl
            clear H2 hw4
            go_wp2_with fail
            refine wp_region_seq (fun W => W.cell? ⟨wr.heap.size, 1, none⟩ = some (.int .i64 y)) [(0, false, 0), (1, false, 1), (2, false, 3), (3, false, 7), (4, false, 15), (5, false, 31), (6, false, 63), (7, false, 127), (8, false, 255), (9, false, 511), (10, false, 1023), (11, false, 2047), (12, false, 4095), (13, false, 8191), (14, false, 16383), (15, false, 32767), (16, false, 65535), (17, false, 131071), (18, false, 262143), (19, false, 524287), (20, false, 1048575), (21, false, 2097151), (22, false, 4194303), (23, false, 8388607), (24, false, 16777215), (25, false, 33554431), (26, false, 67108863), (27, false, 134217727), (28, false, 268435455), (30, false, 536870911), (31, false, 1610612735), (32, false, 3758096383), (29, true, 8053063679), (33, true, 8589934591), (34, false, 17179869183), (35, false, 34359738367)]
              36 (by kernel_rfl) (by kernel_rfl) (by kernel_rfl) (fun d _ _ _ _ h => by cases d <;> exact h) (by kernel_rfl) (by kernel_rfl) (by rw [World.cell?_drew]; exact c4) ?_
            have h4d := lb_below H4.out (Below.refl _ w4).drew
            have H4D := Lib.hid h4d
            clear h4d H4 c4
            generalize w4.drew = w5 at *
            refine seqH_take (.bool false) rfl (Or.inl ⟨by rfl, fun W hW => by go_simp⟩) ?_
            go_simp
            refine seqH_take (.slice Al 0 cl) rfl (Or.inl ⟨by rfl, fun W hW => by go_simp⟩) ?_
            go_simp
            refine seqH_take (.int .i64 0) rfl (Or.inl ⟨by rfl, fun W hW => by go_simp⟩) ?_
            go_simp
            refine seqH_take (.bool false) rfl (Or.inl ⟨by rfl, fun W hW => by go_simp⟩) ?_
            go_simp
            refine seqH_take (.bool false) rfl (Or.inl ⟨by rfl, fun W hW => by go_simp⟩) ?_
            go_simp
            refine seqH_take (.bool false) rfl (Or.inl ⟨by rfl, fun W hW => by go_simp⟩) ?_
            go_simp
            refine seqH_take (.bool false) rfl (Or.inl ⟨by rfl, fun W hW => by go_simp⟩) ?_
            go_simp
            refine seqH_take (.bool true) rfl (Or.inl ⟨by rfl, fun W hW => by go_simp⟩) ?_
            go_simp
            refine seqH_take (.bool true) rfl (Or.inl ⟨by rfl, fun W hW => by go_simp⟩) ?_
            go_simp
            refine seqH_take (.int .i64 0) rfl (Or.inl ⟨by rfl, fun W hW => by go_simp⟩) ?_
            go_simp
            refine seqH_take (.bool false) rfl (Or.inl ⟨by rfl, fun W hW => by go_simp⟩) ?_
            go_simp
            refine seqH_take (.bool false) rfl (Or.inl ⟨by rfl, fun W hW => by go_simp⟩) ?_
            go_simp
            refine seqH_take (.bool false) rfl (Or.inl ⟨by rfl, fun W hW => by go_simp⟩) ?_
            go_simp
            refine seqH_take (.bool false) rfl (Or.inl ⟨by rfl, fun W hW => by go_simp⟩) ?_
            go_simp
            refine seqH_take (.bool false) rfl (Or.inl ⟨by rfl, fun W hW => by go_simp⟩) ?_
            go_simp
            refine seqH_take (.bool false) rfl (Or.inl ⟨by rfl, fun W hW => by go_simp⟩) ?_
            go_simp
            refine seqH_take undef rfl (Or.inr ⟨by rfl, rfl⟩) ?_
            go_simp
            refine seqH_take undef rfl (Or.inr ⟨by rfl, rfl⟩) ?_
            go_simp
            refine seqH_take undef rfl (Or.inr ⟨by rfl, rfl⟩) ?_
            go_simp
            refine seqH_take undef rfl (Or.inr ⟨by rfl, rfl⟩) ?_
            go_simp
            refine seqH_take undef rfl (Or.inr ⟨by rfl, rfl⟩) ?_
            go_simp
            refine seqH_take undef rfl (Or.inr ⟨by rfl, rfl⟩) ?_
            go_simp
            refine seqH_take undef rfl (Or.inr ⟨by rfl, rfl⟩) ?_
            go_simp
            refine seqH_take undef rfl (Or.inr ⟨by rfl, rfl⟩) ?_
            go_simp
            refine seqH_take (.bool false) rfl (Or.inl ⟨by rfl, fun W hW => by go_simp⟩) ?_
            go_simp
            refine seqH_take (.bool false) rfl (Or.inl ⟨by rfl, fun W hW => by go_simp⟩) ?_
            go_simp
            refine seqH_take (.bool false) rfl (Or.inl ⟨by rfl, fun W hW => by go_simp⟩) ?_
            go_simp
            refine seqH_take (.pointer (some ⟨wr.heap.size, 1, none⟩)) rfl (Or.inl ⟨by rfl, fun W hW => by go_simp⟩) ?_
            go_simp
            refine seqH_take (.int .i64 y) rfl (Or.inl ⟨by rfl, fun W hW => by have hcell := hW; clear hW; go_simp⟩) ?_
            go_simp
            refine seqH_take (.slice Ak ks.length ck) rfl (Or.inl ⟨by rfl, fun W hW => by go_simp⟩) ?_
            go_simp
            refine seqH_take (.pointer (some ⟨wr.heap.size, 1, none⟩)) rfl (Or.inl ⟨by rfl, fun W hW => by go_simp⟩) ?_
            go_simp
            refine seqH_take (.int .i64 y) rfl (Or.inl ⟨by rfl, fun W hW => by have hcell := hW; clear hW; go_simp⟩) ?_
            go_simp
            refine seqH_call rfl (by rfl) (fun K hK => ?_)
            have HK := Lib.hid hK
            clear hK
            go_simp
            refine (lb_has H4D.out y hyw).mono ?_
            rintro e w6 ⟨rfl, hb6⟩
            have H6 := Lib.hid (lb_below H4D.out hb6)
            have c6 : w6.cell? ⟨wr.heap.size, 1, none⟩ = some (.int .i64 y) := by rw [cell_of_cells H6.out.bx]; rfl
            clear hb6 H4D
            refine HK.out _ _ c6 ?_
            clear HK K
            go_simp
            refine seqH_call rfl (by rfl) (fun K hK => ?_)
            have HK := Lib.hid hK
            clear hK
            go_simp
            refine (lb_in H6.out y (by omega)).mono ?_
            rintro e w7 ⟨rfl, rfl⟩
            refine HK.out _ _ c6 ?_
            clear HK K
            go_simp
            refine seqH_take (.bool false) rfl (Or.inl ⟨by rfl, fun W hW => by go_simp⟩) ?_
            go_simp
            refine seqH_take (.bool false) rfl (Or.inl ⟨by rfl, fun W hW => by go_simp⟩) ?_
            go_simp
            refine seqH_done ?_
            have H3 := Lib.hid H6.out
            clear H6 c6
            go_wp2_with fail
            refine (lb_tlen H3.out).mono ?_
            rintro e w8 ⟨rfl, rfl⟩
            go_wp2_with fail
            refine (lb_slen H3.out (by omega)).mono ?_
            rintro e w9 ⟨rfl, hb9⟩
            have H4 := Lib.hid (lb_below H3.out hb9).tail
            clear hb9 H3
            go_wp2
            go_roundg (acts.length - (k + 1))
            case rel => exact ⟨k + 1, Al, cl, [], Ak, ck, ks, by omega, rfl, by go_num, rfl, rfl, by simp, by omega, H4.out⟩
            case measure => omega
          · have hl1 : (l ++ [z]).length = l.length + 1 := by simp
            rw [hl1] at hlk
            rw [hl1]
            go_wp2_with fail
            have hll : l.length ≤ 100000 := by omega
            refine (lb_pop_snoc H2.out hll).mono ?_
            rintro e w4 ⟨rfl, h4⟩
            obtain ⟨g, rfl, hcl, hcm, cz, h5⟩ := lb_drop h4
            have H4 := Lib.hid (show LB w1 wr.heap.size _ w1.heap.size (w1.heap.size + 1) l ks (some ⟨g, 0, none⟩) cl l Ak ck ks w4 from h5)
            have c4 : w4.cell? ⟨wr.heap.size, 1, none⟩ = some (.int .i64 y) := by rw [cell_of_cells H4.out.bx]; rfl
            have hgl : g < w4.heap.size := by
              rcases Nat.lt_or_ge g w4.heap.size with h | h
              · exact h
              · simp [World.cell?, Array.getElem?_eq_none h] at cz
            have hcm' : cl ≤ 9223372036854775807 := by unfold maxLen at hcm; omega
            have hcl' : (l.length : Int) ≤ cl := by omega
            have hl0 : (0 : Int) ≤ l.length := by omega
            have hwr : IntKind.i64.wrap (l.length : Int) = l.length := by rw [IntKind.wrap_i64]; omega
            clear H2 h4 h5 hl1
            go_wp2_with fail
            refine wp_region_seq (fun W => W.cell? ⟨wr.heap.size, 1, none⟩ = some (.int .i64 y) ∧ W.cell? ⟨g, l.length, none⟩ = some (.int .i64 z)) [(0, false, 0), (1, false, 1), (2, false, 3), (3, false, 7), (4, false, 15), (5, false, 31), (6, false, 63), (7, false, 127), (8, false, 255), (9, false, 511), (10, false, 1023), (11, false, 2047), (12, false, 4095), (13, false, 8191), (14, false, 16383), (15, false, 32767), (16, false, 65535), (17, false, 131071), (18, false, 262143), (19, false, 524287), (20, false, 1048575), (21, false, 2097151), (22, false, 4194303), (23, false, 8388607), (24, false, 16777215), (25, false, 33554431), (26, false, 67108863), (27, false, 134217727), (28, false, 268435455), (30, false, 536870911), (31, false, 1610612735), (32, false, 3758096383), (29, true, 8053063679), (33, true, 8589934591), (34, false, 17179869183), (35, false, 34359738367)]
              36 (by kernel_rfl) (by kernel_rfl) (by kernel_rfl) (fun d _ _ _ _ h => by cases d <;> exact h) (by kernel_rfl) (by kernel_rfl) ⟨by rw [World.cell?_drew]; exact c4, by rw [World.cell?_drew]; exact cz⟩ ?_
            have h4d := lb_below H4.out (Below.refl _ w4).drew
            have H4D := Lib.hid h4d
            have cz5 : w4.drew.cell? ⟨g, l.length, none⟩ = some (.int .i64 z) := by rw [World.cell?_drew]; exact cz
            have hg5 : g < w4.drew.heap.size := hgl
            clear cz hgl
            clear h4d H4 c4
            generalize w4.drew = w5 at *
            refine seqH_take (.bool true) rfl (Or.inl ⟨by rfl, fun W hW => by go_simp⟩) ?_
            go_simp
            refine seqH_take (.slice (some ⟨g, 0, none⟩) (l.length + 1) cl) rfl (Or.inl ⟨by rfl, fun W hW => by go_simp⟩) ?_
            go_simp
            refine seqH_take (.int .i64 ((l.length : Int) + 1)) rfl (Or.inl ⟨by rfl, fun W hW => by go_simp⟩) ?_
            go_simp
            refine seqH_take (.bool true) rfl (Or.inl ⟨by rfl, fun W hW => by go_simp⟩) ?_
            go_simp
            refine seqH_take (.bool false) rfl (Or.inl ⟨by rfl, fun W hW => by go_simp⟩) ?_
            go_simp
            refine seqH_take (.bool false) rfl (Or.inl ⟨by rfl, fun W hW => by go_simp⟩) ?_
            go_simp
            refine seqH_take (.bool true) rfl (Or.inl ⟨by rfl, fun W hW => by go_simp⟩) ?_
            go_simp
            refine seqH_take (.bool false) rfl (Or.inl ⟨by rfl, fun W hW => by go_simp⟩) ?_
            go_simp
            refine seqH_take (.bool false) rfl (Or.inl ⟨by rfl, fun W hW => by go_simp⟩) ?_
            go_simp
            refine seqH_take undef rfl (Or.inr ⟨by rfl, rfl⟩) ?_
            go_simp
            refine seqH_take undef rfl (Or.inr ⟨by rfl, rfl⟩) ?_
            go_simp
            refine seqH_take (.bool false) rfl (Or.inl ⟨by rfl, fun W hW => by go_simp⟩) ?_
            go_simp
            refine seqH_take (.bool false) rfl (Or.inl ⟨by rfl, fun W hW => by go_simp⟩) ?_
            go_simp
            refine seqH_take (.bool false) rfl (Or.inl ⟨by rfl, fun W hW => by go_simp⟩) ?_
            go_simp
            refine seqH_take (.bool true) rfl (Or.inl ⟨by rfl, fun W hW => by go_simp⟩) ?_
            go_simp
            refine seqH_take (.bool true) rfl (Or.inl ⟨by rfl, fun W hW => by go_simp⟩) ?_
            go_simp
            refine seqH_take (.int .i64 z) rfl (Or.inl ⟨by rfl, fun W hW => by go_simp⟩) ?_
            go_simp
            refine seqH_take (.slice (some ⟨g, 0, none⟩) (l.length + 1) cl) rfl (Or.inl ⟨by rfl, fun W hW => by go_simp⟩) ?_
            go_simp
            refine seqH_take (.slice (some ⟨g, 0, none⟩) (l.length + 1) cl) rfl (Or.inl ⟨by rfl, fun W hW => by go_simp⟩) ?_
            go_simp
            refine seqH_take (.int .i64 ((l.length : Int) + 1)) rfl (Or.inl ⟨by rfl, fun W hW => by go_simp⟩) ?_
            go_simp
            refine seqH_take (.int .i64 l.length) rfl (Or.inl ⟨by rfl, fun W hW => by go_simp⟩) ?_
            go_simp
            refine seqH_take (.pointer (some ⟨g, l.length, none⟩)) rfl (Or.inl ⟨by rfl, fun W hW => by go_simp <;> (intro h; omega)⟩) ?_
            go_simp
            refine seqH_take (.int .i64 z) rfl (Or.inl ⟨by rfl, fun W hW => by have hcell := hW.2; clear hW; go_simp⟩) ?_
            go_simp
            refine seqH_take (.bool false) rfl (Or.inl ⟨by rfl, fun W hW => by go_simp⟩) ?_
            go_simp
            refine seqH_take (.bool false) rfl (Or.inl ⟨by rfl, fun W hW => by go_simp⟩) ?_
            go_simp
            refine seqH_take (.bool false) rfl (Or.inl ⟨by rfl, fun W hW => by go_simp⟩) ?_
            go_simp
            refine seqH_take (.bool false) rfl (Or.inl ⟨by rfl, fun W hW => by go_simp⟩) ?_
            go_simp
            refine seqH_take (.pointer (some ⟨wr.heap.size, 1, none⟩)) rfl (Or.inl ⟨by rfl, fun W hW => by go_simp⟩) ?_
            go_simp
            refine seqH_take (.int .i64 y) rfl (Or.inl ⟨by rfl, fun W hW => by have hcell := hW.1; clear hW; go_simp⟩) ?_
            go_simp
            refine seqH_take (.slice Ak ks.length ck) rfl (Or.inl ⟨by rfl, fun W hW => by go_simp⟩) ?_
            go_simp
            refine seqH_take (.pointer (some ⟨wr.heap.size, 1, none⟩)) rfl (Or.inl ⟨by rfl, fun W hW => by go_simp⟩) ?_
            go_simp
            refine seqH_take (.int .i64 y) rfl (Or.inl ⟨by rfl, fun W hW => by have hcell := hW.1; clear hW; go_simp⟩) ?_
            go_simp
            refine seqH_call rfl (by rfl) (fun K hK => ?_)
            have HK := Lib.hid hK
            clear hK
            go_simp
            refine (lb_has H4D.out y hyw).mono ?_
            rintro e w6 ⟨rfl, hb6⟩
            have H6 := Lib.hid (lb_below H4D.out hb6)
            have c6 : w6.cell? ⟨wr.heap.size, 1, none⟩ = some (.int .i64 y) := by rw [cell_of_cells H6.out.bx]; rfl
            have cz6 : w6.cell? ⟨g, l.length, none⟩ = some (.int .i64 z) := (hb6.cell (p := ⟨g, l.length, none⟩) hg5).trans cz5
            clear cz5 hg5
            clear hb6 H4D
            refine HK.out _ _ ⟨c6, cz6⟩ ?_
            clear HK K
            go_simp
            refine seqH_call rfl (by rfl) (fun K hK => ?_)
            have HK := Lib.hid hK
            clear hK
            go_simp
            refine (lb_in H6.out y (by omega)).mono ?_
            rintro e w7 ⟨rfl, rfl⟩
            refine HK.out _ _ ⟨c6, cz6⟩ ?_
            clear HK K
            go_simp
            refine seqH_take (.bool false) rfl (Or.inl ⟨by rfl, fun W hW => by go_simp⟩) ?_
            go_simp
            refine seqH_take (.bool false) rfl (Or.inl ⟨by rfl, fun W hW => by go_simp⟩) ?_
            go_simp
            refine seqH_done ?_
            have H3 := Lib.hid H6.out
            clear H6 c6 cz6
            go_wp2_with fail
            refine (lb_tlen H3.out).mono ?_
            rintro e w8 ⟨rfl, rfl⟩
            go_wp2_with fail
            refine (lb_slen H3.out (by omega)).mono ?_
            rintro e w9 ⟨rfl, hb9⟩
            have H4 := Lib.hid (lb_below H3.out hb9).tail
            clear hb9 H3
            go_wp2
            go_roundg (acts.length - (k + 1))
            case rel => exact ⟨k + 1, some ⟨g, 0, none⟩, cl, l, Ak, ck, ks, by omega, rfl, by go_num, by simp, rfl, by omega, by omega, H4.out⟩
            case measure => omega
      · obtain rfl : k = acts.length := by omega
        have hI : ∃ A c, (Value.slice Ak ks.length ck) = .slice A ks.length c ∧ Ints wr wr.heap.size A ks := by
          have h9 : Holds w1 (Star (Rw (.slice Ak ks.length ck) ks) (Star (Rw (.slice Al l.length cl) l) (Star (Td w1.heap.size l) (Sn (w1.heap.size + 1) ks)))) wr := by
            refine hh.imp ?_
            exact (imp_tail (imp_tail imp_comm)).trans (imp3.trans ((imp_tail ((imp_tail imp_comm).trans (imp_swap.trans (Imp.refl _))))))
          exact h9.ints
        obtain ⟨Ai, ci, ei, hin⟩ := hI
        injection ei with e1 _ e3
        subst e1 e3
        have hsn : ∃ G, SeenAt wr (w1.heap.size + 1) ks G := by
          obtain ⟨F, ⟨A, B, _, _, _, C, D, _, _, h2, _⟩, _, _⟩ := hh
          exact ⟨C, h2⟩
        obtain ⟨G, hsn⟩ := hsn
        have HAL := Lib.hid (all_any wr (w1.heap.size + 1) G ks hsn (by omega))
        have HIN := Lib.hid hin
        have HBL := Lib.hid (HB1.out.trans (hh.top.mono HB1.out.size))
        clear hsn hin hh HST
        go_wp2_with fail
        refine HAL.out.mono ?_
        rintro e w9 ⟨⟨A9, c9, L, rfl, hinL, hlen, hsub, hris⟩, hb9⟩
        have HK9 := Lib.hid ((HIN.out.below hb9).mono hb9.size)
        have HL9 := Lib.hid hinL
        have HB9 := Lib.hid (HBL.out.trans (hb9.mono HBL.out.size))
        have HF := Lib.hid (And.intro hsub hris)
        have HLEN := Lib.hid hlen
        have hLl : L.length ≤ 500 := by omega
        have hKl : ks.length ≤ 500 := by omega
        clear hinL hsub hris hb9 HAL HIN HBL hlen
        go_wp2
        go_loopg [12] L.length (fun g i wr => ∃ k : Nat, k ≤ L.length ∧ g = L.length - k ∧ i = .int .i64 k ∧ Below w9.heap.size w9 wr)
        case atStart => exact ⟨0, Nat.zero_le _, rfl, rfl, Below.refl _ _⟩
        case round =>
          obtain ⟨i, hi, rfl, rfl, hbl⟩ := hrel
          by_cases hlt2 : i < L.length
          · have g1 : (i : Int) < L.length := by omega
            have g0 : (0 : Int) ≤ i := by omega
            obtain ⟨a9, hA9, hB9, hc9⟩ := (HL9.out.below hbl) i hlt2
            have hmem : L.getD i 0 ∈ ks := HF.out.1 _ (getD_mem hlt2)
            have hC := in_any wr.drew w9.heap.size Ak ck ks (L.getD i 0) (HK9.out.below hbl.drew) (by omega)
            rw [decide_eq_true hmem] at hC
            have HC := Lib.hid hC
            have HB2 := Lib.hid hbl
            clear hC hmem
            subst hA9
            cases i with
            | zero =>
              clear hbl
              have hc9' : wr.cell? a9 = some (.int .i64 (L.getD 0 0)) := by have h := hc9; rwa [show a9.add 0 = a9 by simp [Addr.add]] at h
              clear hc9
              generalize L.getD 0 0 = x0 at *
              go_wp2_with fail
              refine wp_region_still_lit (by kernel_rfl) (by kernel_rfl) ?_
              change wpStill _ _ (World.drew _) (fun a' => Exit.then _ _ _ a' (World.drew _)) _ _
              iterate 5 ((with_reducible refine wpStill_step ?_); intro K hK; go_simp; refine hK _ ?_; clear hK K)
              ((with_reducible refine wpStill_step ?_); intro K hK; go_simp; refine ⟨_, HC.out, hK _ ?_⟩; clear hK K)
              iterate 5 ((with_reducible refine wpStill_step ?_); intro K hK; go_simp; refine hK _ ?_; clear hK K)
              iterate 10 ((with_reducible refine wpStill_skip ?_ ?_); rfl; go_simp)
              iterate 2 ((with_reducible refine wpStill_step ?_); intro K hK; go_simp; refine hK _ ?_; clear hK K)
              refine wpStill_nil ?_
              go_wp2
              go_roundg (L.length - (0 + 1))
              case rel => exact ⟨0 + 1, by omega, rfl, by go_num, HB2.out.drew⟩
              case measure => omega
            | succ i =>
              obtain ⟨b9, hA8, hB8, hc8⟩ := (HL9.out.below hbl) i (by omega)
              injection hA8 with hA8
              subst hA8
              have hq : L.getD i 0 < L.getD (i + 1) 0 := by
                have hp := List.pairwise_iff_getElem.1 HF.out.2 i (i + 1) (by omega) hlt2 (by omega)
                simpa [List.getD, List.getElem?_eq_getElem hlt2, List.getElem?_eq_getElem (show i < L.length by omega)] using hp
              have hq1 : decide (L.getD (i + 1) 0 ≤ L.getD i 0) = false := decide_eq_false (by omega)
              clear hbl
              generalize L.getD (i + 1) 0 = x1 at *
              generalize L.getD i 0 = x0 at *
              have hgt : (0 : Int) < (i : Int) + 1 := by omega
              have hi1 : ((i : Int) + 1) - 1 = i := by omega
              have hi2 : (i : Int) < L.length := by omega
              have hi4 : (0 : Int) ≤ (i : Int) + 1 := by omega
              have hwr : IntKind.i64.wrap (i : Int) = i := by rw [IntKind.wrap_i64]; omega
              have hi5 : (i : Int) + 1 < L.length := by omega
              have hc9' : wr.cell? ⟨a9.block, a9.off + (i + 1), none⟩ = some (.int .i64 x1) := by have h := hc9; rwa [show a9.add (i + 1) = ⟨a9.block, a9.off + (i + 1), none⟩ by simp [Addr.add]] at h
              clear hc9
              have hi3 : (0 : Int) ≤ i := by omega
              go_wp2_with fail
              refine wp_region_still_lit (by kernel_rfl) (by kernel_rfl) ?_
              change wpStill _ _ (World.drew _) (fun a' => Exit.then _ _ _ a' (World.drew _)) _ _
              iterate 5 ((with_reducible refine wpStill_step ?_); intro K hK; go_simp; refine hK _ ?_; clear hK K)
              ((with_reducible refine wpStill_step ?_); intro K hK; go_simp; refine ⟨_, HC.out, hK _ ?_⟩; clear hK K)
              iterate 17 ((with_reducible refine wpStill_step ?_); intro K hK; go_simp; refine hK _ ?_; clear hK K)
              refine wpStill_nil ?_
              go_wp2
              go_roundg (L.length - (i + 1 + 1))
              case rel => exact ⟨i + 1 + 1, by omega, rfl, by go_num, HB2.out.drew⟩
              case measure => omega
          · have hq1 : ((L.length : Int) == (ks.length : Int)) = true := by rw [HLEN.out]; simp
            have hq2 : decide ((L.length : Int) = (ks.length : Int)) = true := by rw [HLEN.out]; simp
            obtain rfl : i = L.length := by omega
            have HB2 := Lib.hid hbl
            clear hbl
            go_wp2
            go_ret
            exact ⟨by first | rfl | (simp [HLEN.out]), HB9.out.trans (HB2.out.mono HB9.out.size)⟩
  · have h500' : (500 : Int) < acts.length := by omega
    go_wp2
    go_ret
    exact ⟨rfl, HB1.out⟩

theorem own : ownKnob Try.prog.godebug = none := by kernel_rfl

set_option maxRecDepth 100000 in
theorem lifted (os : Os) (started : os.Started) (H : Type) (enc : TypeId × Value → H) :
    ReturnsInHanded {} Try.checked os 4 .any (Rows.workListsSpec.pre6 enc Try.prog Try.f4 Rows.workListsRow.domain false) (Rows.workListsSpec.post enc Try.prog Try.f4 false true false false) := by
  refine returnsInHanded_of_change (C := Try.checked) own started (by kernel_rfl) Try.func4
    (ChangeSpec.witness6 (enc := enc) (C := Try.checked) false ⟨#[], #[.slice none 0 0], []⟩ 8 (by kernel_rfl) (by kernel_rfl) (by kernel_rfl) (by kernel_rfl)) ?_
  intro W base args ds gs before hval0 hW hcnd _
  have hval : ∀ (j : Nat) t v, Try.f4.params[j]? = some t → args[j]? = some v → Value.okWide Try.prog W .any base t v := hval0
  have hW' := hW
  obtain ⟨p, q, hA0, hV, rfl, hfz, hnd⟩ := hW
  have hA : DataW.TrodAll enc Try.prog W 0 (fun _ => true) true Try.f4.params.toList args.toList ds p := hA0
  rw [Try.params4] at hA hval
  obtain ⟨v0, vs0, d0, ds0, p0, q0, hargs, rfl, rfl, h0, r0⟩ := trodAll_cons hA
  obtain ⟨rfl, rfl, rfl⟩ := trodAll_nil r0
  obtain rfl : args = #[v0] := by cases args; simp_all
  obtain ⟨rfl, rfl⟩ := trodVars_none hV
  obtain ⟨A0, l0, c0, rfl, hr0, hw0⟩ := Hw.open_acts_arg (hval 0 22 v0 rfl rfl) h0
  clear hA0 hval0
  refine (walk A0 c0 l0 W hr0 hw0).mono fun e W' ⟨he, hg⟩ => ?_
  subst he
  exact ⟨_, rfl, law_post Try.laid (by kernel_rfl) (by kernel_rfl) Try.underlying4 rfl rfl hW' hg⟩

theorem over : Rows.workListsRow.holds Try.pinned (OpenSpec.ofChange Rows.workListsSpec) :=
  OpenClaim.holds_of_wide 4 Try.f4 rfl rfl rfl rfl rfl rfl rfl ⟨rfl, rfl, rfl, rfl, rfl⟩ rfl rfl rfl rfl rfl (by kernel_rfl) Try.func4 (by kernel_rfl)
    (of_decide_eq_true (by kernel_rfl)) (by unfold Func.isWrapper; first | (rw [if_pos (by decide +kernel)]; kernel_rfl) | (rw [if_neg (by decide +kernel)]; exact ⟨rfl, rfl⟩))
    (fun os started H enc _ => lifted os started H enc)
end Go.Proofs.Ytmfejibllhccaaa.workLists

namespace Go.Proofs.Ytmfejibllhccaaa
theorem workLists_holds : Rows.WorkListsSaid := workLists.over
end Go.Proofs.Ytmfejibllhccaaa
