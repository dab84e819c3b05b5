/-
  The program's disk: the power fails (layer 7).
-/
import Derived.Test.YtdgfbpkpfmdjjaaKd
namespace Go.Proofs.Ytdgfbpkpfmdjjaa.Hk
open Go.RowKit Hr Hw Ht
set_option linter.unusedVariables false

theorem turns_in {F G G' : List Nat} {a b : World} (h : Turns G G' a b) (hG : ∀ k, k ∈ G → k ∈ F) : Turns F F a b := (h.wider hG).to (fun k hk => .inl hk)
theorem ranges_setB {w : World} {b N R n : Nat} {D : DataW Unit} {left : Lit → Bool} {cnt i : Nat} {v : Value} (h : w.ranges (H := Unit) Try.prog 9 fileElem N R n D left cnt) (h1 : b ≠ N) (h2 : b ≠ R) : (w.setCell ⟨b, i, none⟩ v).ranges (H := Unit) Try.prog 9 fileElem N R n D left cnt :=
  h.kept (row := some b) ⟨rfl, rfl, rfl, by simp [World.setCell], fun k _ hk => Below.heap_setCell _ _ _ _ (fun e => hk (by rw [e]))⟩ (fun e => h1 (by injection e with e; exact e.symm)) (fun e => h2 (by injection e with e; exact e.symm))
theorem ranges_below {w w' : World} {N R n : Nat} {D : DataW Unit} {left : Lit → Bool} {cnt : Nat} (h : w.ranges (H := Unit) Try.prog 9 fileElem N R n D left cnt) (hb : Below w.heap.size w w') : w'.ranges (H := Unit) Try.prog 9 fileElem N R n D left cnt :=
  h.kept (row := none) ⟨hb.os, hb.tape, hb.output, hb.size, fun k hk _ => hb.block k hk⟩ (by simp) (by simp)
def failR (s : Raw) : Raw := ⟨s.room, keepF s.lie s.first s.keep s.first.length, keepF s.lie s.first s.keep s.first.length, takenF (keepF s.lie s.first s.keep s.first.length), [], 0, 0, 0, true⟩

set_option maxHeartbeats 4000000 in
set_option maxRecDepth 100000 in
theorem fail_any (w : World) (b : Nat) (s : Raw) (F : List Nat) (h : RawAt w b s F) (hl : s.lie.length + s.first.length ≤ 3000) (hn : s.first.length ≤ 64) (hk0 : 0 ≤ s.keep) (hk1 : s.keep < 18446744073709551616)
    (ht : takenF (keepF s.lie s.first s.keep s.first.length) ≤ 1000000000) (he : ∀ e ∈ s.first, EfOk e) :
    Calls Try.prog 37 #[.pointer (some ⟨b, 0, none⟩)] w fun r w' => r = .returned (.int .i64 8) ∧ ∃ F', RawAt w' b (failR s) F' ∧ Turns F F' w w' := by
  obtain ⟨ml, ms, A, c, hi, rfl⟩ := h.is
  clear h
  have hN := hi.nine
  have hc4 := hN.c4
  have HI0 := Lib.hid hi
  clear hi hN
  have HE := Lib.hid he
  have HT := Lib.hid ht
  clear he ht
  go_enter Try.func37, Try.ntmps37
  go_wp2
  go_loopg [11] s.first.length (fun g i wr => ∃ k : Nat, k ≤ s.first.length ∧ g = s.first.length - k ∧ i = .int .i64 k ∧ RawIs wr b { s with lie := keepF s.lie s.first s.keep k } ml ms A c ∧ Turns (foot b ml ms (.slice A s.first.length c)) (foot b ml ms (.slice A s.first.length c)) w wr)
  case atStart => exact ⟨0, Nat.zero_le _, rfl, rfl, HI0.out, Turns.refl _ _⟩
  case round =>
    obtain ⟨k, hk, rfl, rfl, hi, htn⟩ := hrel
    have hN := hi.nine
    have k7 := hN.c7
    have k1 := hN.c1
    simp only at k7 k1
    by_cases hlt : k < s.first.length
    · have h1 : (k : Int) < s.first.length := by omega
      have h0 : (0 : Int) ≤ k := by omega
      obtain ⟨ad, rfl, hB1, hcc⟩ := hi.recs k hlt
      have hc : (k : Int) < 64 := by omega
      have e0 : wr.cell? (ad.add (k * 4)) = some (.int .i64 (kd (s.first.getD k default))) := hcc 0 (by omega)
      have e1 : wr.cell? ⟨(ad.add (k * 4)).block, (ad.add (k * 4)).off + 1, none⟩ = some (.string (s.first.getD k default).2.1) := hcc 1 (by omega)
      have e2 : wr.cell? ⟨(ad.add (k * 4)).block, (ad.add (k * 4)).off + 2, none⟩ = some (.string (toS (s.first.getD k default))) := hcc 2 (by omega)
      have e3 : wr.cell? ⟨(ad.add (k * 4)).block, (ad.add (k * 4)).off + 3, none⟩ = some (.string (teS (s.first.getD k default))) := hcc 3 (by omega)
      have hx : EfOk (s.first.getD k default) := HE.out _ (by rw [List.getD_eq_getElem?_getD, List.getElem?_eq_getElem hlt]; simp)
      have hkl := keepF_len s.lie s.first s.keep k
      have HI := Lib.hid (And.intro hi htn)
      have hbl := hi.lt
      clear hi htn hcc hN
      by_cases hb : keptB s.keep k = true
      · have hbb : (bits .and .u64 (s.keep / 2 ^ k) 1 == 1) = true := hb
        have HS2 := Lib.hid (show keepF s.lie s.first s.keep (k + 1) = doneF (keepF s.lie s.first s.keep k) (s.first.getD k default) from by rw [keepF, if_pos hb])
        generalize s.first.getD k default = x at *
        have HX := Lib.hid hx
        clear hb hx
        go_wp2_with fail
        have hbe : Below wr.heap.size wr ((wr.alloc (.cells #[.int .i64 (kd x), .string x.2.1, .string (toS x), .string (teS x)] 80)).drew) := ((Below.refl _ wr).alloc (Nat.le_refl _) _).drew
        have hI1 := HI.out.1.below hbe
        have HD := Lib.hid (edo_any _ ml _ x hI1.2.1 (by simp only; omega) HX.out)
        have hT1 := (HI.out.2.alloc (.cells #[.int .i64 (kd x), .string x.2.1, .string (toS x), .string (teS x)] 80)).drew
        have HI1 := Lib.hid (And.intro hI1 hT1)
        clear hI1 hT1 HI hbe
        refine wp_region_still_tail 5 (by kernel_rfl) (by kernel_rfl) ?_
        simp only [List.take_succ_cons, List.take_zero, List.drop_succ_cons, List.drop_zero]
        change wpStill _ _ (World.drew _) (fun a' => wpList _ _ _ _ a' (World.drew _)) _ _
        iterate 5 still_step
        refine wpStill_nil ?_
        go_wp2_with (go_at_call 38; refine HD.out.mono ?_; rintro r w4 ⟨rfl, hm4, ht4⟩)
        go_roundg (s.first.length - (k + 1))
        case rel => exact ⟨k + 1, by omega, rfl, by go_num, by rw [HS2.out]; exact HI1.out.1.lieTo hm4 ht4, HI1.out.2.trans (turns_in ht4 (fun j hj => foot_mem.2 (.inr (.inl (by simpa using hj)))))⟩
        case measure => omega
      · have hbb : (bits .and .u64 (s.keep / 2 ^ k) 1 == 1) = false := by simpa [keptB] using hb
        have HS2 := Lib.hid (show keepF s.lie s.first s.keep (k + 1) = keepF s.lie s.first s.keep k from by rw [keepF, if_neg hb])
        clear hb hx
        generalize s.first.getD k default = x at *
        go_wp2
        go_roundg (s.first.length - (k + 1))
        case rel => exact ⟨k + 1, by omega, rfl, by go_num, by rw [HS2.out]; exact HI.out.1.below ((Below.refl _ wr).alloc (Nat.le_refl _) _), HI.out.2.alloc _⟩
        case measure => omega
    · have h1 : ¬ (k : Int) < s.first.length := by omega
      obtain rfl : k = s.first.length := by omega
      have f4 := hi.unf 4
      have f5 := hi.unf 5
      have f6 := hi.unf 6
      have f7 := hi.unf 7
      have f8 := hi.unf 8
      have f2 := hi.unf 2
      have f3 := hi.unf 3
      have k4 := hN.c4
      have k5 := hN.c5
      have k6 := hN.c6
      have k8 := hN.c8
      have k2 := hN.c2
      have k3 := hN.c3
      have hbl := hi.lt
      have HI := Lib.hid (And.intro hi htn)
      clear hi htn hN hlt
      obtain ⟨L, hL⟩ : ∃ L, keepF s.lie s.first s.keep s.first.length = L := ⟨_, rfl⟩
      have HTL := Lib.hid HT.out
      rw [hL] at HI HTL
      have HLL := Lib.hid hL
      clear hL HT
      go_wp2_with fail
      have hI5 := ((((HI.out.1.clear).set 5 (.int .i64 0) ⟨s.room, L, s.seen, s.taken, [], 0, s.left, s.keep, s.down⟩ rfl rfl rfl rfl).set 6 (.int .i64 0) ⟨s.room, L, s.seen, s.taken, [], 0, 0, s.keep, s.down⟩ rfl rfl rfl rfl).set 7 (.int .u64 0) ⟨s.room, L, s.seen, s.taken, [], 0, 0, 0, s.down⟩ rfl rfl rfl rfl).set 8 (.bool true) ⟨s.room, L, s.seen, s.taken, [], 0, 0, 0, true⟩ rfl rfl rfl rfl
      have hT5 := ((((HI.out.2.setCell (p := ⟨b, 4, none⟩) (foot_mem.2 (.inl rfl)) (.slice none 0 0)).setCell (p := ⟨b, 5, none⟩) (foot_mem.2 (.inl rfl)) (.int .i64 0)).setCell (p := ⟨b, 6, none⟩) (foot_mem.2 (.inl rfl)) (.int .i64 0)).setCell (p := ⟨b, 7, none⟩) (foot_mem.2 (.inl rfl)) (.int .u64 0)).setCell (p := ⟨b, 8, none⟩) (foot_mem.2 (.inl rfl)) (.bool true)
      generalize (((((wr.setCell ⟨b, 4, none⟩ (.slice none 0 0)).setCell ⟨b, 5, none⟩ (.int .i64 0)).setCell ⟨b, 6, none⟩ (.int .i64 0)).setCell ⟨b, 7, none⟩ (.int .u64 0)).setCell ⟨b, 8, none⟩ (.bool true)) = W5 at *
      clear HI f2 f3 f4 f5 f6 f7 f8 k1 k2 k3 k4 k5 k6 k7 k8 hbl
      refine (clone_any W5 ml L hI5.2.1).mono ?_
      rintro r w6 ⟨rfl, hm6, hm6', hb6⟩
      have hI6 := hI5.below hb6
      have hn6 : ∀ k, k ∈ foot b ml ms (.slice none 0 0) → k ≠ W5.heap.size := fun k hk e => by have := hI5.lies k hk; omega
      have hz6 := hI5.lies ml (foot_mem.2 (.inr (.inl rfl)))
      have hz6' := hI5.lt
      have hT6 := hT5.trans ((turns_in (F := foot b ml ms (.slice A s.first.length c)) (Turns.of_below hb6) (fun k hk => by cases hk)).to (F'' := foot b ml W5.heap.size (.slice none 0 0)) (fun k hk => by
        rcases foot_mem.1 hk with rfl | rfl | rfl | hk
        · exact .inl (foot_mem.2 (.inl rfl))
        · exact .inl (foot_mem.2 (.inr (.inl rfl)))
        · exact .inr (Nat.le_refl _)
        · cases hk))
      have hNw : w.heap.size ≤ W5.heap.size := hT5.size
      clear hT5 hI5
      generalize W5.heap.size = N at *
      have c6 := hI6.nine.c2
      have c6' := hI6.nine.c3
      have f6 := hI6.unf 2
      have f6' := hI6.unf 3
      have hI7 := (hI6.seenNew hm6 hn6).set 3 (.int .i64 0) ⟨s.room, L, L, 0, [], 0, 0, 0, true⟩ rfl rfl rfl rfl
      have hT7 := (hT6.setCell (p := ⟨b, 2, none⟩) (foot_mem.2 (.inl rfl)) (.map (some N))).setCell (p := ⟨b, 3, none⟩) (foot_mem.2 (.inl rfl)) (.int .i64 0)
      have HI7 := Lib.hid (And.intro hI7 hT7)
      clear hI7 hT7 hT6 hI6 hm6 hm6' hb6
      go_wp2_with (at_range; refine wpList_range_own _ rfl _ 70 rfl 9 84 klaw Try.underlying70 fileElem N _ (toD L) rfl HI7.out.1.2.2.1 ?_; intro w8 hr8 hg8 hs8)
      have hs7 : ((w6.setCell ⟨b, 2, none⟩ (.map (some N))).setCell ⟨b, 3, none⟩ (.int .i64 0)).heap.size = w6.heap.size := by rw [st_size, st_size]
      rw [hs7] at hr8 hs8
      generalize ((w6.setCell ⟨b, 2, none⟩ (.map (some N))).setCell ⟨b, 3, none⟩ (.int .i64 0)) = W7 at *
      have hI8 := HI7.out.1.same (fun k hk => hg8.block k (HI7.out.1.lies k hk) (by simp))
      have hT8 := HI7.out.2.grown hg8 (fun k hk => by cases hk)
      have hlR : ∀ k, k ∈ foot b ml N (.slice none 0 0) → k ≠ w6.heap.size := fun k hk e => by have := HI7.out.1.lies k hk; omega
      have hwR : w.heap.size ≤ w6.heap.size := by rw [← hs7]; exact HI7.out.2.size
      have HI8 := Lib.hid (And.intro hI8 hT8)
      have HLR := Lib.hid (And.intro hlR hwR)
      clear hI8 hT8 HI7 hg8 hs8 hs7 c6 c6' f6 f6' hlR hwR hz6 hz6' hNw hn6
      generalize w6.heap.size = R at *
      have HR8 := Lib.hid hr8
      clear hr8
      go_loopw [5] (fun _ wr => ∃ (left : Lit → Bool) (cnt : Nat), wr.ranges Try.prog 9 fileElem N R L.length (toD L) left cnt ∧ RawIs wr b ⟨s.room, L, L, takenF (come L left), [], 0, 0, 0, true⟩ ml N none 0 ∧ Turns (foot b ml ms (.slice A s.first.length c)) (foot b ml N (.slice none 0 0)) w wr) (fun _ wr => wr.rangeLeft N R)
      case atStart => exact ⟨_, _, HR8.out, by rw [come_start]; exact HI8.out.1, HI8.out.2⟩
      case round =>
        obtain ⟨left, cnt, hrg, hi, hti⟩ := hrel
        have HII := Lib.hid (And.intro hrg (And.intro hi hti))
        clear hrg hi hti
        go_wp2_with (at_next; refine wpList_next_file _ rfl _ rfl N R L.length L left cnt rfl HII.out.1 ?_ ?_)
        · intro hl0
          have HL0 := Lib.hid hl0
          clear hl0
          go_wp2
          go_ret
          have h9 := HII.out.2.1
          rw [come_end L HL0.out] at h9
          refine ⟨rfl, _, ?_, HII.out.2.2⟩
          unfold failR
          rw [HLL.out]
          exact h9.at
        · intro p t w1 cnt1 hpl hlk hf hrg1 hlt hg1 hs1 hen
          have hI1 := HII.out.2.1.grown hg1 HLR.out.1
          have hT1 := turns_new HII.out.2.2 hg1 HLR.out.2
          have hrL : Rise L := HII.out.2.1.2.1.rise
          have htk := come_taken hrL hlk
          have hle := come_le L (fun z => left z && !z.sameKey (pk p))
          have c3 := hI1.nine.c3
          have f3 := hI1.unf 3
          have hw : IntKind.i64.wrap ((takenF (come L left) : Int) + (takes L p : Int)) = (takenF (come L (fun z => left z && !z.sameKey (pk p))) : Int) := by
            rw [IntKind.wrap_i64]
            have := HTL.out
            omega
          have HRM := Lib.hid (And.intro hrg1 (And.intro hI1 (And.intro hT1 (And.intro hlt (And.intro hs1 (takes_le hrL p))))))
          have HLE := Lib.hid (HII.out.1.left_eq)
          have hbl := hI1.lt
          clear hlk hf hrg1 hlt hg1 hs1
          simp only at c3
          have hrn : b ≠ N ∧ b ≠ R := ⟨hI1.2.2.2.2.2.1, HLR.out.1 b (foot_mem.2 (.inl rfl))⟩
          have HRN := Lib.hid hrn
          clear hrn hI1 hT1 hrL htk hle HII
          obtain ⟨T2, hT2⟩ : ∃ T2 : Int, (takenF (come L (fun z => left z && !z.sameKey (pk p))) : Int) = T2 := ⟨_, rfl⟩
          rw [hT2] at hw
          have HT2 := Lib.hid hT2
          clear hT2
          go_wp2_with fail
          have hd1 : Below w1.heap.size w1 w1.drew := (Below.refl _ w1).drew
          refine wp_region_tree (fun _ => True) (.take 0 0 (.take 1 1 (.take 2 3 (.take 4 7 (.take 5 23 (.fork 3 6 55 (.call 6 63 (.take 7 127 (.take 8 255 (.take 9 511 (.call 10 1023 .done))))) (.call 3 119 (.take 7 127 (.take 8 255 (.take 9 511 (.call 10 1023 .done)))))))))))
            11 (by kernel_rfl) (by kernel_rfl) (by kernel_rfl) (fun d _ _ _ _ h => by cases d <;> exact h) (by kernel_rfl) trivial ?_
          have c3d : w1.drew.cell? ⟨b, 3, none⟩ = some (.int .i64 (takenF (come L left))) := by rw [World.cell?_drew]; exact c3
          generalize w1.drew = wd at *
          have HC := Lib.hid (takes_any wd b _ _ (HRM.out.2.1.below hd1).at p hpl (by simp only; have := HRM.out.2.2.2.2.2; have := HTL.out; omega))
          have HD1 := Lib.hid hd1
          have hbd : b < wd.heap.size := Nat.lt_of_lt_of_le hbl hd1.size
          clear hd1 c3 f3 hen
          refine trH_take (.pointer (some ⟨b, 0, none⟩)) rfl (Or.inl ⟨by rfl, fun W _ => by go_simp⟩) ?_
          go_simp
          refine trH_take (.pointer (some ⟨b, 0, none⟩)) rfl (Or.inl ⟨by rfl, fun W _ => by go_simp⟩) ?_
          go_simp
          refine trH_take (.pointer (some ⟨b, 3, none⟩)) rfl (Or.inl ⟨by rfl, fun W _ => by go_simp⟩) ?_
          go_simp
          refine trH_take (.pointer (some ⟨b, 0, none⟩)) rfl (Or.inl ⟨by rfl, fun W _ => by go_simp⟩) ?_
          go_simp
          refine trH_take (.string p) rfl (Or.inl ⟨by rfl, fun W _ => by go_simp⟩) ?_
          go_simp
          refine trH_fork rfl (by rfl) rfl (by rfl) (fun K hK => ?_) (fun K hK => ?_)
          · have HK := Lib.hid hK
            clear hK
            go_simp
            refine HK.out _ _ trivial ?_
            clear HK K
            go_simp
            refine trH_call rfl (by rfl) (fun K hK => ?_)
            have HK := Lib.hid hK
            clear hK
            go_simp
            refine HC.out.mono ?_
            rintro r w2 ⟨rfl, hb2⟩
            have HB2 := Lib.hid (HD1.out.trans (hb2.mono HD1.out.size))
            have hb2l : b < w2.heap.size := Nat.lt_of_lt_of_le hbd hb2.size
            have c3e : w2.cell? ⟨b, 3, none⟩ = some (.int .i64 (takenF (come L left))) := (hb2.cell (p := ⟨b, 3, none⟩) hbd).trans c3d
            have f3e : w2.frozen? ⟨b, 3, none⟩ = false := (HRM.out.2.1.below HB2.out).unf 3
            clear hb2
            refine HK.out _ _ trivial ?_
            clear HK K
            go_simp
            refine trH_take (.int .i64 T2) rfl (Or.inl ⟨by rfl, fun W _ => by go_simp⟩) ?_
            go_simp
            refine trH_take (.pointer (some ⟨b, 0, none⟩)) rfl (Or.inl ⟨by rfl, fun W _ => by go_simp⟩) ?_
            go_simp
            refine trH_take (.pointer (some ⟨b, 3, none⟩)) rfl (Or.inl ⟨by rfl, fun W _ => by go_simp⟩) ?_
            go_simp
            refine trH_call rfl (by rfl) (fun K hK => ?_)
            have HK := Lib.hid hK
            clear hK
            go_simp
            refine HK.out _ _ trivial ?_
            clear HK K
            go_simp
            refine trH_done ?_
            go_wp2
            have hI9 := (HRM.out.2.1.below HB2.out).set 3 (.int .i64 T2) ⟨s.room, L, L, T2, [], 0, 0, 0, true⟩ rfl rfl rfl rfl
            go_roundw
            case rel => exact ⟨_, cnt1, ranges_setB (ranges_below HRM.out.1 HB2.out) HRN.out.1 HRN.out.2, by rw [HT2.out]; exact hI9, (HRM.out.2.2.1.trans (turns_in (Turns.of_below HB2.out) (fun k hk => by cases hk))).setCell (p := ⟨b, 3, none⟩) (foot_mem.2 (.inl rfl)) _⟩
            case measure => rw [(ranges_setB (b := b) (i := 3) (v := .int .i64 T2) (ranges_below HRM.out.1 HB2.out) HRN.out.1 HRN.out.2).left_eq, HLE.out]; exact HRM.out.2.2.2.1
          · have HK := Lib.hid hK
            clear hK
            go_simp
            refine HC.out.mono ?_
            rintro r w2 ⟨rfl, hb2⟩
            have HB2 := Lib.hid (HD1.out.trans (hb2.mono HD1.out.size))
            have hb2l : b < w2.heap.size := Nat.lt_of_lt_of_le hbd hb2.size
            have c3e : w2.cell? ⟨b, 3, none⟩ = some (.int .i64 (takenF (come L left))) := (hb2.cell (p := ⟨b, 3, none⟩) hbd).trans c3d
            have f3e : w2.frozen? ⟨b, 3, none⟩ = false := (HRM.out.2.1.below HB2.out).unf 3
            clear hb2
            refine HK.out _ _ trivial ?_
            clear HK K
            go_simp
            refine trH_call rfl (by rfl) (fun K hK => ?_)
            have HK := Lib.hid hK
            clear hK
            go_simp
            refine HK.out _ _ trivial ?_
            clear HK K
            go_simp
            refine trH_take (.int .i64 T2) rfl (Or.inl ⟨by rfl, fun W _ => by go_simp⟩) ?_
            go_simp
            refine trH_take (.pointer (some ⟨b, 0, none⟩)) rfl (Or.inl ⟨by rfl, fun W _ => by go_simp⟩) ?_
            go_simp
            refine trH_take (.pointer (some ⟨b, 3, none⟩)) rfl (Or.inl ⟨by rfl, fun W _ => by go_simp⟩) ?_
            go_simp
            refine trH_call rfl (by rfl) (fun K hK => ?_)
            have HK := Lib.hid hK
            clear hK
            go_simp
            refine HK.out _ _ trivial ?_
            clear HK K
            go_simp
            refine trH_done ?_
            go_wp2
            have hI9 := (HRM.out.2.1.below HB2.out).set 3 (.int .i64 T2) ⟨s.room, L, L, T2, [], 0, 0, 0, true⟩ rfl rfl rfl rfl
            go_roundw
            case rel => exact ⟨_, cnt1, ranges_setB (ranges_below HRM.out.1 HB2.out) HRN.out.1 HRN.out.2, by rw [HT2.out]; exact hI9, (HRM.out.2.2.1.trans (turns_in (Turns.of_below HB2.out) (fun k hk => by cases hk))).setCell (p := ⟨b, 3, none⟩) (foot_mem.2 (.inl rfl)) _⟩
            case measure => rw [(ranges_setB (b := b) (i := 3) (v := .int .i64 T2) (ranges_below HRM.out.1 HB2.out) HRN.out.1 HRN.out.2).left_eq, HLE.out]; exact HRM.out.2.2.2.1
end Go.Proofs.Ytdgfbpkpfmdjjaa.Hk
