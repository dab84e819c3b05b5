/-
  awake of the law of layer 6.
-/
import Derived.Test.YtmfejibllhccaaaYb
namespace Go.Proofs.Ytmfejibllhccaaa.Hx
open Go.RowKit Hw
set_option linter.unusedVariables false

/-- what the function that awake hands in tells of what it is asked of -/
def esA : List (Int × Int) := [(1, 2), (1, 1), (2, 2), (2, 0), (0, 2), (0, 0)]
theorem walkA : goesF [1, 2, 0] 9 esA [] [] [1] = ([1, 2, 0], true) := by decide +kernel
theorem nextsA {k x : Int} (h : x ∈ nexts esA k) : x ∈ ([1, 2, 0] : List Int) := by
  have := nexts_mem h
  simp [esA] at this ⊢
  omega

set_option maxHeartbeats 1000000 in
set_option maxRecDepth 100000 in
theorem nextA (w : World) (k : Int) (y : Int) (hy : nexts esA k = [2, y]) (hm : k.tmod 2 = y) :
    Calls Try.prog 33 #[.int .i64 k] w fun e w' => (∃ A c, e = .returned (.tuple #[.slice A (nexts esA k).length c, .bool true]) ∧ Ints w' w'.heap.size A (nexts esA k) ∧ ∀ ad, A = some ad → w.heap.size ≤ ad.block ∧ ad.block < w'.heap.size) ∧ Below w.heap.size w w' := by
  rw [hy]
  have HY := Lib.hid hy
  clear hy
  go_enter Try.func33, Try.ntmps33
  go_wp2
  go_ret2
  have hblk := heap_alloc_new w (.cells #[.int .i64 2, .int .i64 y] 3)
  have hin : Ints (w.alloc (.cells #[.int .i64 2, .int .i64 y] 3)) (w.alloc (.cells #[.int .i64 2, .int .i64 y] 3)).heap.size (some ⟨w.heap.size, 0, none⟩) [2, y] := by
    intro i hi
    refine ⟨_, rfl, by simp, ?_⟩
    have h2 : i < 2 := by simpa using hi
    have h3 : i = 0 ∨ i = 1 := by omega
    rcases h3 with rfl | rfl
    · show World.cell? _ ⟨w.heap.size, 0, none⟩ = _; rw [cell_of_cells hblk]; rfl
    · show World.cell? _ ⟨w.heap.size, 1, none⟩ = _; rw [cell_of_cells hblk]; rfl
  exact ⟨⟨_, _, rfl, hin, fun ad ha => by injection ha with ha; subst ha; simp⟩, (Below.refl _ w).alloc (Nat.le_refl _) _⟩

theorem okA : NextOk [1, 2, 0] esA [] 33 #[] (fun _ S _ => S = []) where
  enters := enters_of Try.func33 (by kernel_rfl) rfl
  lies := fun h k hk => by subst h; cases hk
  same := fun h _ => h
  call := fun out S w k hJ hk _ => by
    subst hJ
    have h : ∃ y, nexts esA k = [2, y] ∧ k.tmod 2 = y := by
      simp at hk
      rcases hk with rfl | rfl | rfl
      · exact ⟨1, by decide +kernel, by decide⟩
      · exact ⟨0, by decide +kernel, by decide⟩
      · exact ⟨0, by decide +kernel, by decide⟩
    obtain ⟨y, hy, hm⟩ := h
    refine (nextA w k y hy hm).mono ?_
    rintro e w' ⟨⟨A, c, rfl, hin, hA⟩, hb⟩
    exact ⟨A, c, [], by simp, hin, fun ad ha => ⟨(hA ad ha).1, (hA ad ha).2, by simp⟩, rfl, Turns.of_below hb⟩

set_option maxHeartbeats 4000000 in
set_option maxRecDepth 100000 in
theorem awake_any (w : World) : Calls Try.prog 8 #[] w fun e w' => e = .returned (.bool true) ∧ Below w.heap.size w w' := by
  have hz : ∀ W : World, (Below w.heap.size w W) → w.heap.size ≤ W.heap.size := fun W h => h.size
  go_enter Try.func8, Try.ntmps8
  go_wp2_with fail
  refine (Hps.new_any w 1 1 (by decide)).mono ?_
  rintro e w1 ⟨b, F1, rfl, hp1, hb1, hF1⟩
  have HP1 := Lib.hid (And.intro hp1 (And.intro hb1 hF1))
  clear hp1 hb1 hF1
  go_wp2_with fail
  refine (Hps.send_room w1 b 1 [] F1 ⟨#[97]⟩ HP1.out.1 (by decide)).mono ?_
  rintro e w2 ⟨rfl, p2, F2, hp2, hu2⟩
  have HP2 := Lib.hid (And.intro hp2 (And.intro (HP1.out.2.1.trans (hu2.below HP1.out.2.1.size HP1.out.2.2)) (hu2.new HP1.out.2.2 HP1.out.2.1.size)))
  clear hp2 hu2 HP1
  go_wp2_with fail
  refine (Hps.send_full w2 b 1 _ F2 ⟨#[98]⟩ HP2.out.1 (by simp)).mono ?_
  rintro e w3 ⟨rfl, hb3⟩
  have HP3 := Lib.hid (And.intro (HP2.out.1.same (same_of_below hb3 HP2.out.1.lies)) (And.intro (HP2.out.2.1.trans (hb3.mono HP2.out.2.1.size)) HP2.out.2.2))
  clear hb3 HP2
  go_wp2_with fail
  refine (Hps.next_some w3 b 1 F2 false p2 ⟨#[97]⟩ [] HP3.out.1).mono ?_
  rintro e w4 ⟨rfl, F4, hp4, hu4⟩
  have HP4 := Lib.hid (And.intro hp4 (And.intro (HP3.out.2.1.trans (hu4.below HP3.out.2.1.size HP3.out.2.2)) (hu4.new HP3.out.2.2 HP3.out.2.1.size)))
  clear hp4 hu4 HP3
  go_wp2_with fail
  refine (Hps.close_open w4 b 1 [] F4 HP4.out.1).mono ?_
  rintro e w5 ⟨rfl, hp5, hu5⟩
  have HP5 := Lib.hid (And.intro hp5 (HP4.out.2.1.trans (hu5.below HP4.out.2.1.size HP4.out.2.2)))
  clear hp5 hu5 HP4
  go_wp2_with fail
  refine (Hps.send_shut w5 b 1 [] F4 ⟨#[99]⟩ HP5.out.1).mono ?_
  rintro e w6 ⟨rfl, hb6⟩
  have HB6 := Lib.hid (HP5.out.2.trans (hb6.mono HP5.out.2.size))
  clear hb6 HP5
  go_wp2_with fail
  have ht6 : TodoAt (w6.alloc (.cells #[.slice none 0 0] 35)) w6.heap.size [] [w6.heap.size] := ⟨_, _, heap_alloc_new w6 _, World.ownsRow_nil _ _ _ _, by simp [Value.ownBlock], rfl⟩
  have hb6 : Below w.heap.size w (w6.alloc (.cells #[.slice none 0 0] 35)) := HB6.out.alloc HB6.out.size _
  have hn6 : ∀ k, k ∈ [w6.heap.size] → w.heap.size ≤ k := fun k hk => by have := HB6.out.size; simp at hk; omega
  refine (push_any _ w6.heap.size _ [] 5 ht6 (by simp)).mono ?_
  rintro e w7 ⟨rfl, F7, ht7, hu7⟩
  have HP7 := Lib.hid (And.intro ht7 (And.intro (hb6.trans (hu7.below hb6.size hn6)) (hu7.new hn6 hb6.size)))
  clear ht7 hu7 ht6 hb6 hn6 HB6
  go_wp2_with fail
  refine (pop_snoc w7 _ F7 [] 5 HP7.out.1 (by simp)).mono ?_
  rintro e w8 ⟨rfl, ht8, hu8⟩
  have HB8 := Lib.hid (HP7.out.2.1.trans (hu8.below HP7.out.2.1.size HP7.out.2.2))
  clear ht8 hu8 HP7
  go_wp2_with fail
  have hs8 : SeenAt (w8.alloc (.cells #[.map none, .slice none 0 0] 38)) w8.heap.size [] [w8.heap.size] := ⟨_, .inl ⟨heap_alloc_new w8 _, rfl, rfl⟩⟩
  have hb8 : Below w.heap.size w (w8.alloc (.cells #[.map none, .slice none 0 0] 38)) := HB8.out.alloc HB8.out.size _
  have hn8 : ∀ k, k ∈ [w8.heap.size] → w.heap.size ≤ k := fun k hk => by have := HB8.out.size; simp at hk; omega
  refine (add_new _ w8.heap.size _ [] 7 hs8 (by decide) (by simp) (by simp)).mono ?_
  rintro e w9 ⟨rfl, F9, hs9, hu9⟩
  have HP9 := Lib.hid (And.intro hs9 (hb8.trans (hu9.below hb8.size hn8)))
  clear hs9 hu9 hs8 hb8 hn8 HB8
  go_wp2_with fail
  refine (add_old w9 w8.heap.size F9 _ 7 HP9.out.1 (by decide) (by simp)).mono ?_
  rintro e w10 ⟨rfl, hb10⟩
  have HP10 := Lib.hid (And.intro (HP9.out.1.same (same_of_below hb10 HP9.out.1.lies)) (HP9.out.2.trans (hb10.mono HP9.out.2.size)))
  clear hb10 HP9
  go_wp2_with fail
  have hin10 : Ints (w10.alloc (.cells #[.int .i64 1] 3)) (w10.alloc (.cells #[.int .i64 1] 3)).heap.size (some ⟨w10.heap.size, 0, none⟩) [1] := by
    intro i hi
    obtain rfl : i = 0 := by simpa using hi
    refine ⟨_, rfl, by simp, ?_⟩
    show World.cell? _ ⟨w10.heap.size, 0, none⟩ = _
    rw [cell_of_cells (heap_alloc_new w10 _)]; rfl
  have hW := walk_any okA (fun k x hx => nextsA hx) (fun x hx => by simp at hx; rcases hx with rfl | rfl | rfl <;> decide) (w10.alloc (.cells #[.int .i64 1] 3)) [] (some ⟨w10.heap.size, 0, none⟩) 1 [1] 9 rfl hin10 (fun ad ha => by injection ha with ha; subst ha; simp) (fun x hx => by simp at hx; simp [hx]) (by decide) (by decide) (by simp)
  rw [walkA] at hW
  refine hW.mono ?_
  clear hW hin10
  rintro e w11 ⟨A, c, S, rfl, hin, _, rfl, hu⟩
  have hb11 : Below (w10.alloc (.cells #[.int .i64 1] 3)).heap.size (w10.alloc (.cells #[.int .i64 1] 3)) w11 := hu.below (Nat.le_refl _) (fun k hk => by cases hk)
  obtain ⟨ad, rfl, hadl, hc2⟩ := hin 2 (by simp)
  have hc2' : w11.cell? (ad.add 2) = some (.int .i64 0) := hc2
  have hb12 : Below w10.heap.size w10 w11 := ((Below.refl _ w10).alloc (Nat.le_refl _) _).trans (hb11.mono (by simp))
  have HH := Lib.hid (has_any w11 w8.heap.size F9 _ 7 (HP10.out.1.same (same_of_below hb12 HP10.out.1.lies)) (by decide))
  have HB12 := Lib.hid (HP10.out.2.trans (hb12.mono HP10.out.2.size))
  clear hin hu hb11 hb12 hc2 HP10
  go_wp2_with fail
  rw [show decide ((7 : Int) ∈ ([] ++ [7] : List Int)) = true by decide] at HH
  refine HH.out.mono ?_
  rintro e w12 ⟨rfl, hb13⟩
  have hc3 : w12.cell? (ad.add 2) = some (.int .i64 0) := (hb13.cell (by rw [block_of_add]; exact hadl)).trans hc2'
  have HB13 := Lib.hid (HB12.out.trans (hb13.mono HB12.out.size))
  clear hb13 HH HB12 hc2' hz
  have hc4 : w12.cell? ⟨ad.block, ad.off + 2, none⟩ = some (.int .i64 0) := hc3
  clear hc3
  go_wp2
  go_ret
  exact ⟨rfl, HB13.out⟩
end Go.Proofs.Ytmfejibllhccaaa.Hx
