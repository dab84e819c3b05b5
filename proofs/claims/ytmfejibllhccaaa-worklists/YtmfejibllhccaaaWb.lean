/-
  Contracts of the document's Same and Next (layer 6).
-/
import Derived.Test.YtmfejibllhccaaaWa
namespace Go.Proofs.Ytmfejibllhccaaa.Hw
open Go.RowKit
set_option linter.unusedVariables false

theorem take_same {l m : List Int} {k : Nat} (hk : k < l.length) (hm : k < m.length) (h : l.take k = m.take k) (he : l.getD k 0 = m.getD k 0) : l.take (k + 1) = m.take (k + 1) := by
  rw [List.take_add_one, List.take_add_one, h, List.getElem?_eq_getElem hk, List.getElem?_eq_getElem hm]
  simp only [List.getD, List.getElem?_eq_getElem hk, List.getElem?_eq_getElem hm, Option.getD_some] at he
  rw [he]

set_option maxRecDepth 100000 in
theorem same_any (w : World) (B : Nat) (A A' : Option Addr) (c c' : Nat) (l m : List Int) (h : Ints w B A l) (h' : Ints w B A' m) (hB : B ≤ w.heap.size) (hl : l.length ≤ 100000) (hm : m.length ≤ 100000) :
    Calls Try.prog 26 #[.slice A l.length c, .slice A' m.length c'] w fun e w' => e = .returned (.bool (decide (l = m))) ∧ Below w.heap.size w w' := by
  have HL := Lib.hid h
  have HM := Lib.hid h'
  clear h h'
  by_cases hlen : l.length = m.length
  · have HE := Lib.hid hlen
    have hneq : ((l.length : Int) != (m.length : Int)) = false := by rw [hlen]; simp
    go_enter Try.func26, Try.ntmps26
    go_wp2
    go_loopg [5] l.length (fun g i wr => ∃ k : Nat, k ≤ l.length ∧ g = l.length - k ∧ i = .int .i64 k ∧ Below w.heap.size w wr ∧ l.take k = m.take k)
    case atStart => exact ⟨0, Nat.zero_le _, rfl, rfl, Below.refl _ _, by simp⟩
    case round =>
      obtain ⟨k, hk, rfl, rfl, hbl, hsm⟩ := hrel
      by_cases hlt : k < l.length
      · have hlm : k < m.length := by have := HE.out; omega
        have h1 : (k : Int) < l.length := by omega
        have h2 : (k : Int) < m.length := by omega
        have h0 : (0 : Int) ≤ k := by omega
        obtain ⟨ad, rfl, hB1, hc1⟩ := (HL.out.below (hbl.mono hB)) k hlt
        obtain ⟨ad', rfl, hB2, hc2⟩ := (HM.out.below (hbl.mono hB)) k hlm
        by_cases he : l.getD k 0 = m.getD k 0
        · have HS := Lib.hid (take_same hlt hlm hsm he)
          have HB := Lib.hid hbl
          rw [← he] at hc2
          generalize l.getD k 0 = x at *
          clear hsm he hbl hneq hlen
          go_wp2_with fail
          refine wp_region_still_lit (by kernel_rfl) (by kernel_rfl) ?_
          change wpStill _ _ (World.drew _) (fun a' => Exit.then _ _ _ a' (World.drew _)) _ _
          iterate 9 still_step
          refine wpStill_nil ?_
          go_wp2
          go_roundg (l.length - (k + 1))
          case rel => exact ⟨k + 1, by omega, rfl, by go_num, HB.out.drew, HS.out⟩
          case measure => omega
        · have hne : ¬ l = m := fun e => he (by rw [e])
          have HN := Lib.hid (decide_eq_false hne)
          have HB := Lib.hid hbl
          generalize l.getD k 0 = x at *
          generalize m.getD k 0 = y at *
          clear hsm hbl hneq hlen hne
          go_wp2_with fail
          refine wp_region_still_lit (by kernel_rfl) (by kernel_rfl) ?_
          change wpStill _ _ (World.drew _) (fun a' => Exit.then _ _ _ a' (World.drew _)) _ _
          iterate 9 still_step
          refine wpStill_nil ?_
          go_wp2
          go_ret
          exact ⟨by rw [HN.out]; rfl, HB.out.drew⟩
      · obtain rfl : k = l.length := by omega
        have hlm : l = m := by rw [List.take_length] at hsm; rw [hsm, HE.out, List.take_length]
        have HY := Lib.hid (decide_eq_true hlm)
        clear hsm hlm
        go_wp2
        go_ret
        exact ⟨by rw [HY.out]; rfl, hbl⟩
  · have hne : ¬ l = m := fun e => hlen (by rw [e])
    have HN := Lib.hid (decide_eq_false hne)
    have hneq : ((l.length : Int) != (m.length : Int)) = true := by simp; omega
    clear hne
    go_enter Try.func26, Try.ntmps26
    go_wp2
    go_ret
    exact ⟨by rw [HN.out]; rfl, Below.refl _ _⟩

/-! ### Next -/
/-- what one tells -/
def nexts (es : List (Int × Int)) (k : Int) : List Int := (es.filter fun e => e.1 == k).map (·.2)
theorem nexts_succ {es : List (Int × Int)} {i : Nat} {k : Int} (hi : i < es.length) : nexts (es.take (i + 1)) k = nexts (es.take i) k ++ (if (es.getD i (0, 0)).1 = k then [(es.getD i (0, 0)).2] else []) := by
  rw [List.take_add_one, List.getElem?_eq_getElem hi]
  simp only [nexts, List.getD, List.getElem?_eq_getElem hi, Option.getD_some, Option.toList_some, List.filter_append, List.map_append, List.filter_cons, List.filter_nil]
  by_cases h : es[i].1 = k
  · simp [h]
  · simp [h]
theorem nexts_le (es : List (Int × Int)) (k : Int) (i : Nat) : (nexts (es.take i) k).length ≤ es.length := by
  rw [nexts, List.length_map]
  exact Nat.le_trans (List.length_filter_le _ _) (by rw [List.length_take]; omega)
theorem info3 : (Try.prog.info? 3).map (fun i => (i.zero, i.size, i.bytes)) = some (some (.int .i64 0), 1, 8) := by kernel_rfl

theorem own_new {w : World} {base n : Nat} {v : Value} {xs : List Value} {ad : Addr} (h : w.ownsRow base 3 1 v n xs) (c : Nat) (hv : v = .slice (some ad) n c) : base ≤ ad.block ∧ ad.block < w.heap.size := h.lt ad.block (by rw [hv]; rfl)

set_option maxHeartbeats 1000000 in
set_option maxRecDepth 100000 in
theorem next_new (w : World) (B : Nat) (A A' : Option Addr) (c c' : Nat) (es : List (Int × Int)) (bs : List Int) (k : Int) (h : Prs w B A es) (h' : Ints w B A' bs) (hB : B ≤ w.heap.size) (hl : es.length ≤ 1000) (hm : bs.length ≤ 1000) :
    Calls Try.prog 24 #[.slice A es.length c, .slice A' bs.length c', .int .i64 k] w fun e w' => (∃ A2 c2, e = .returned (.tuple #[.slice A2 (nexts es k).length c2, .bool (!decide (k ∈ bs))]) ∧ Ints w' w'.heap.size A2 (nexts es k) ∧ ∀ ad, A2 = some ad → w.heap.size ≤ ad.block ∧ ad.block < w'.heap.size) ∧ Below w.heap.size w w' := by
  obtain ⟨i0, hi0, hz0, hz1, hz2⟩ := info_parts info3
  have HI := Lib.hid (And.intro hi0 (And.intro hz0 (And.intro hz1 hz2)))
  clear hi0 hz0 hz1 hz2
  have HP := Lib.hid h
  have HB' := Lib.hid h'
  clear h h'
  go_enter Try.func24, Try.ntmps24
  go_wp2
  go_loopg [8, 9] es.length (fun g v i wr => ∃ j : Nat, j ≤ es.length ∧ g = es.length - j ∧ i = .int .i64 j ∧ Below w.heap.size w wr ∧ wr.ownsRow w.heap.size 3 1 v (nexts (es.take j) k).length (intCells (nexts (es.take j) k)))
  case atStart => exact ⟨0, Nat.zero_le _, rfl, rfl, Below.refl _ _, ⟨rfl, .inl ⟨rfl, rfl⟩⟩⟩
  case round =>
    obtain ⟨j, hj, rfl, rfl, hbl, hown⟩ := hrel
    by_cases hlt : j < es.length
    · have h1 : (j : Int) < es.length := by omega
      have h0 : (0 : Int) ≤ j := by omega
      obtain ⟨ad, rfl, hB1, hc1, hc2⟩ := (HP.out.below (hbl.mono hB)) j hlt
      have hsu := nexts_succ (k := k) hlt
      have hle := nexts_le es k j
      have hblw := hbl.size
      by_cases he : (es.getD j (0, 0)).1 = k
      · rw [if_pos he] at hsu
        rw [he] at hc1
        generalize (es.getD j (0, 0)).2 = y at *
        generalize nexts (es.take j) k = xs at *
        have HS := Lib.hid hsu
        have HO := Lib.hid hown
        have HB := Lib.hid hbl
        clear hsu hown hbl he
        go_wp2_with (at_builtin; refine wpList_append_own_at _ rfl (.tmp 23) (.tmp 29) 26 rfl w.heap.size 3 i0 _ 1 8 Try.underlying26 HI.out.1 HI.out.2.1 HI.out.2.2.1 HI.out.2.2.2 rfl (by omega) u8 xs.length (intCells xs) rfl (HO.out.alloc _) ⟨wr.heap.size, 0, none⟩ 1 1 [.int .i64 y] rfl rfl (World.news_of_block (cs := #[.int .i64 y]) (t := 3) (fr := (0, 0)) (heap_alloc_new wr _)) (by simp [Value.oneCell']) (by unfold maxLen; omega) (by omega) (by simp; omega) ?_; intro v1 wA hoA hgA hnA hatA)
        have hown2 : wA.ownsRow w.heap.size 3 1 v1 (xs ++ [y]).length (intCells (xs ++ [y])) := by
          rw [List.length_append, intCells, List.map_append]
          exact hoA
        have hbl2 : Below w.heap.size w wA := (HB.out.alloc hblw _).grown hgA (by simp; omega) (fun i hi => (HO.out.lt i hi).1)
        have HO2 := Lib.hid hown2
        have HB2 := Lib.hid hbl2
        clear hown2 hbl2 hoA hgA hnA hatA
        go_roundg (es.length - (j + 1))
        case rel => exact ⟨j + 1, by omega, rfl, by go_num, HB2.out, by rw [HS.out]; exact HO2.out⟩
        case measure => omega
      · rw [if_neg he, List.append_nil] at hsu
        have HS := Lib.hid hsu
        have HO := Lib.hid hown
        have HB := Lib.hid hbl
        generalize (es.getD j (0, 0)).1 = y at *
        clear hsu hown hbl
        go_wp2
        go_roundg (es.length - (j + 1))
        case rel => exact ⟨j + 1, by omega, rfl, by go_num, HB.out, by rw [HS.out]; exact HO.out⟩
        case measure => omega
    · obtain rfl : j = es.length := by omega
      rw [List.take_length] at hown
      have hnw := fun ad => own_new (ad := ad) hown
      obtain ⟨A2, c2, rfl, hin⟩ := ints_own hown
      have HN := Lib.hid (And.intro hin (fun ad (ha : A2 = some ad) => hnw ad c2 (by rw [ha])))
      have HBS := Lib.hid (HB'.out.below (hbl.mono hB))
      clear hown hin hnw
      go_wp2_with fail
      refine (in_any _ B A' c' bs k HBS.out (by omega)).mono ?_
      rintro e w2 ⟨rfl, rfl⟩
      go_wp2
      go_ret2
      exact ⟨⟨A2, c2, rfl, HN.out⟩, hbl⟩

theorem next_any (w : World) (B : Nat) (A A' : Option Addr) (c c' : Nat) (es : List (Int × Int)) (bs : List Int) (k : Int) (h : Prs w B A es) (h' : Ints w B A' bs) (hB : B ≤ w.heap.size) (hl : es.length ≤ 1000) (hm : bs.length ≤ 1000) :
    Calls Try.prog 24 #[.slice A es.length c, .slice A' bs.length c', .int .i64 k] w fun e w' => (∃ A2 c2, e = .returned (.tuple #[.slice A2 (nexts es k).length c2, .bool (!decide (k ∈ bs))]) ∧ Ints w' w'.heap.size A2 (nexts es k)) ∧ Below w.heap.size w w' :=
  (next_new w B A A' c c' es bs k h h' hB hl hm).mono fun e w' ⟨⟨A2, c2, h1, h2, _⟩, h3⟩ => ⟨⟨A2, c2, h1, h2⟩, h3⟩
end Go.Proofs.Ytmfejibllhccaaa.Hw
