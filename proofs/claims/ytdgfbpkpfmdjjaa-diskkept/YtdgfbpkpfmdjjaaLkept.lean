/-
  Proved: DiskKept returns true for every two rows of calls and every cut, and changes nothing that was there.
  Conditions: none beside the row's own.
-/
import Derived.Test.YtdgfbpkpfmdjjaaKu
import Derived.Test.YtdgfbpkpfmdjjaaP
namespace Go.Proofs.Ytdgfbpkpfmdjjaa.diskKept
open Go.ChangeShapes Go.WideShapes Go.ChangeAt Go.RowKit Hr Hw Ht Hk
open Go.ChangeMaps (open_string)
set_option linter.unusedVariables false

theorem eff_act (d : Dsk) (k : Int) (p t : ByteArray) (at_ keep : Int) (h1 : 1 ≤ k) (h3 : k ≤ 3) : actF d (k, p, t, at_, keep) = (doF d (k, p, t)).1 := by
  have hk : k = 1 ∨ k = 2 ∨ k = 3 := by omega
  simp [actF, hk]
theorem kept0 (k : Nat) : keptB 0 k = false := by
  unfold keptB
  rw [Int.zero_ediv]
  rfl
theorem keep_none (l : List Fl) (rs : List Ef) : ∀ n, keepF l rs 0 n = l
  | 0 => rfl
  | n + 1 => by
    unfold keepF
    rw [kept0, if_neg (by decide)]
    exact keep_none l rs n
theorem cut_none {room : Int} {n m : Nat} {d : Dsk} (h : Hk.Calm room n m d) : syncF (armF d 1 0) = ({ d with rows := [], down := true, at_ := 1, keep := 0, left := 0 }, 8) := by
  have h1 : callF (armF d 1 0) = ({ d with rows := [], down := true, at_ := 1, keep := 0, left := 0 }, true) := by
    rw [callF_one (d := armF d 1 0) rfl]
    show (({ d with lies := keepF d.lies d.rows 0 (min d.rows.length 64), rows := [], down := true, at_ := 1, keep := 0, left := 0 } : Dsk), true) = _
    rw [keep_none]
  unfold syncF
  rw [if_neg (by show ¬ d.down = true; rw [h.up]; decide), h1]
  rfl
theorem list_found {L : List Fl} {pre q : ByteArray} (h : q ∈ listF L pre) : (findF L q).isSome = true := by
  unfold listF at h
  obtain ⟨x, hx, rfl⟩ := List.mem_map.1 h
  have hx' := (List.mem_filter.1 hx).1
  unfold findF
  rw [Option.isSome_map, List.find?_isSome]
  exact ⟨x, hx', by simp⟩

theorem ok_act {wf tf : ByteArray → Bool} {k : Int} {p t : ByteArray} (hp : tf p = true) (h1 : k = 1 → wf t = true) (h2 : k = 2 → tf t = true) : OkE wf tf (k, p, t) := ⟨hp, h1, h2⟩
theorem upd_same {α : Type} (f : ByteArray → α) (p : ByteArray) (x : α) : upd f p x p = x := if_pos rfl
theorem upd_le {f : ByteArray → Bool} {p t : ByteArray} (h : f t = true) : upd f p true t = true := by unfold upd; split; rfl; exact h
set_option maxHeartbeats 16000000 in
set_option maxRecDepth 100000 in
theorem walk (A : Option Addr) (c : Nat) (l : List Ac) (A' : Option Addr) (c' : Nat) (l' : List Ac) (cat ckp : Int) (w00 : World) (hr : Acs w00 w00.heap.size A l) (hz : ∀ a ∈ l, AcOk a) (hr' : Acs w00 w00.heap.size A' l') (hz' : ∀ a ∈ l', AcOk a) (hcat : (Lit.int .i64 cat).wf = true) (hckp : (Lit.int .u64 ckp).wf = true) :
    Calls Try.prog 4 #[.slice A l.length c, .slice A' l'.length c', .agg #[.int .i64 cat, .int .u64 ckp]] w00 fun e w' => e = .returned (.bool true) ∧ Below w00.heap.size w00 w' := by
  have hat9 : cat ≤ 9223372036854775807 := by simp [Lit.wf, IntKind.min, IntKind.max, IntKind.signed, IntKind.bits] at hcat; omega
  obtain ⟨hk0, hk1⟩ := bnd_u64 hckp
  obtain ⟨w, hw⟩ : ∃ w, w = w00.alloc (.cells #[.int .i64 cat, .int .u64 ckp] 33) := ⟨_, rfl⟩
  have hb0 : Below w00.heap.size w00 w := by rw [hw]; exact (Below.refl _ w00).alloc (Nat.le_refl _) _
  have hcut : w.heap[w00.heap.size]? = some (.cells #[.int .i64 cat, .int .u64 ckp] 33) := by rw [hw]; exact heap_alloc_new w00 _
  have hclt : w00.heap.size < w.heap.size := (Array.getElem?_eq_some_iff.1 hcut).1
  have HB0 := Lib.hid hb0
  have HCUT := Lib.hid hcut
  have HP := Lib.hid ((hr.below hb0).mono hb0.size)
  have HZ := Lib.hid hz
  have HP' := Lib.hid ((hr'.below hb0).mono hb0.size)
  have HZ' := Lib.hid hz'
  have HW := Lib.hid hw
  clear hr hz hr' hz' hb0 hcut hw hcat hckp
  go_enter Try.func4, Try.ntmps4
  go_wp2_with fail
  rw [← HW.out]
  refine (awake_any w).mono ?_
  rintro r w1 ⟨rfl, hb1⟩
  have HF := Lib.hid (few_any w1 A c l w.heap.size (HP.out.below hb1) hb1.size HZ.out)
  have HB1 := Lib.hid hb1
  clear hb1
  go_wp2_with fail
  refine HF.out.mono ?_
  rintro r w2 ⟨rfl, hb2⟩
  have hb02 := HB1.out.trans (hb2.mono HB1.out.size)
  have HF' := Lib.hid (few_any w2 A' c' l' w.heap.size (HP'.out.below hb02) hb02.size HZ'.out)
  have HB2 := Lib.hid hb02
  clear HB1 hb2 hb02 HF
  by_cases hs : sumF l ≤ 300
  · have hsd : decide (sumF l ≤ 300) = true := decide_eq_true hs
    simp only [hsd]
    go_wp2_with fail
    refine HF'.out.mono ?_
    rintro r w3 ⟨rfl, hb3⟩
    have hb03 := HB2.out.trans (hb3.mono HB2.out.size)
    have HB3 := Lib.hid hb03
    clear HB2 hb3 hb03 HF'
    by_cases hs' : sumF l' ≤ 300
    · have hsd' : decide (sumF l' ≤ 300) = true := decide_eq_true hs'
      have HN := Lib.hid (h_new ((holds_start w).below emp_part HB3.out) emp_part 100000 (by omega) (by omega))
      simp only [hsd']
      go_wp2_with fail
      refine HN.out.mono ?_
      rintro r w4 ⟨b, rfl, h4⟩
      have H4 := Lib.hid h4
      have hln := len_sum l
      have hln' := len_sum l'
      clear h4 HN HB3
      go_wp2
      go_loopg [9] l.length (fun g i wr => ∃ (j : Nat) (d : Dsk), j ≤ l.length ∧ g = l.length - j ∧ i = .int .i64 j ∧ Holds w (Star (Dk b d) Emp) wr ∧ Hk.Calm 100000 (0 + j) (15000 * (0 + j)) d ∧ True)
      case atStart => exact ⟨0, newD 100000, Nat.zero_le _, rfl, rfl, H4.out, calm_new 100000, trivial⟩
      case round =>
        obtain ⟨j, d, hj, rfl, rfl, hh, hca, htk⟩ := hrel
        by_cases hlt : j < l.length
        · have h1 : (j : Int) < l.length := by omega
          have hj0 : (0 : Int) ≤ j := by omega
          obtain ⟨ad, rfl, hB1, hcc⟩ := (HP.out.below hh.top) j hlt
          obtain ⟨hok, h15⟩ := act_ok hlt hs HZ.out
          obtain ⟨a, ha⟩ : ∃ a, l.getD j default = a := ⟨_, rfl⟩
          rw [ha] at hcc hok h15
          obtain ⟨k, p, t, at_, keep⟩ := a
          have e0 : wr.cell? (ad.add (j * 5)) = some (.int .i64 k) := hcc 0 (by omega)
          have e1 : wr.cell? ⟨(ad.add (j * 5)).block, (ad.add (j * 5)).off + 1, none⟩ = some (.string p) := hcc 1 (by omega)
          have e2 : wr.cell? ⟨(ad.add (j * 5)).block, (ad.add (j * 5)).off + 2, none⟩ = some (.string t) := hcc 2 (by omega)
          have e3 : wr.cell? ⟨(ad.add (j * 5)).block, (ad.add (j * 5)).off + 3, none⟩ = some (.int .i64 at_) := hcc 3 (by omega)
          have e4 : wr.cell? ⟨(ad.add (j * 5)).block, (ad.add (j * 5)).off + 4, none⟩ = some (.int .u64 keep) := hcc 4 (by omega)
          have HH := Lib.hid (And.intro hh (And.intro hca htk))
          clear hcc ha hh hca htk
          by_cases hk1 : 1 ≤ k
          · by_cases hk4 : k ≤ 3
            · have ea := eff_act d k p t at_ keep hk1 hk4
              obtain ⟨f1, f2, f3, -⟩ := calm_eff HH.out.2.1 (k, p, t)
              have fl : (doF d (k, p, t)).1.lies = d.lies := by
                by_cases h9 : (doF d (k, p, t)).2 = 0
                · rw [(f3 h9).1]
                · rw [f2 h9]
              have fit1 : Fit d := HH.out.2.1.fit (by omega) (by omega)
              have HD := Lib.hid (do_p HH.out.1 emp_part fit1 (k, p, t, at_, keep) hok)
              unfold acV at HD
              rw [ea] at HD
              obtain ⟨d2, hd2⟩ : ∃ d2, (doF d (k, p, t)).1 = d2 := ⟨_, rfl⟩
              rw [hd2] at HD f1 fl
              have h15' : wt (k, p, t) ≤ 15000 := h15
              have HF2 := Lib.hid (And.intro (f1.mono (n' := 0 + (j + 1)) (m' := 15000 * (0 + (j + 1))) (by omega) (by omega)) fl)
              clear f1 f2 f3 fl fit1 hd2 hok ea
              simp only at HD
              go_wp2_with fail
              refine HD.out.mono ?_
              rintro r w5 ⟨A5, c5, rfl, h5⟩
              have H5 := Lib.hid h5.tail
              clear h5 HD
              go_wp2
              go_roundg (l.length - (j + 1))
              case rel => exact ⟨j + 1, d2, by omega, rfl, by go_num, H5.out, HF2.out.1, trivial⟩
              case measure => omega
            · go_wp2
              go_roundg (l.length - (j + 1))
              case rel => exact ⟨j + 1, d, by omega, rfl, by go_num, HH.out.1, HH.out.2.1.mono (by omega) (by omega), HH.out.2.2⟩
              case measure => omega
          · go_wp2
            go_roundg (l.length - (j + 1))
            case rel => exact ⟨j + 1, d, by omega, rfl, by go_num, HH.out.1, HH.out.2.1.mono (by omega) (by omega), HH.out.2.2⟩
            case measure => omega
        · have h1 : ¬ (j : Int) < l.length := by omega
          obtain ⟨L, hL⟩ : ∃ L, sn d = L := ⟨_, rfl⟩
          have hsy := calm_sync hca
          have hcd := (calm_synced hca).1
          have HS3 := Lib.hid (h_sync hh emp_part (hca.fit (by omega) (by omega)))
          obtain ⟨dc, hdc⟩ : ∃ dc, (syncF d).1 = dc := ⟨_, rfl⟩
          rw [hdc] at HS3 hcd
          have hdc2 : dc.lies = L ∧ dc.rows = [] := by rw [← hdc, hsy, ← hL]; exact ⟨rfl, rfl⟩
          have hsd2 : (syncF d).2 = 0 := by rw [hsy]
          rw [hsd2] at HS3
          have HDC := Lib.hid (And.intro hdc2 hcd)
          have hjl : j ≤ 300 := by omega
          clear hh hca htk hL hsy hdc hdc2 hcd hsd2
          generalize hn0 : j = n0 at *
          have HN0 := Lib.hid hn0
          clear hn0
          have hmm := @run_makeMap Try.prog
          go_wp2_with fail
          refine HS3.out.mono ?_
          rintro r wa ⟨rfl, ha⟩
          obtain ⟨wb, hwb⟩ : ∃ wb, wb = wa.alloc (.map #[] 0) := ⟨_, rfl⟩
          obtain ⟨mo, hmo⟩ : ∃ mo, mo = wa.heap.size := ⟨_, rfl⟩
          have hb1 : Holds w (Star (Dk b dc) (Star (Sm mo 0 (fun _ => none)) Emp)) wb := by rw [hwb, hmo]; exact h_swap (sm_made ha ((dk_part b dc).star emp_part))
          obtain ⟨l0, hl0⟩ : ∃ l0, listF L ByteArray.empty = l0 := ⟨_, rfl⟩
          have hlc : listD dc ByteArray.empty = l0 := by unfold listD; rw [if_neg (by rw [HDC.out.2.up]; decide), HDC.out.1.1, HDC.out.1.2]; exact hl0
          have hll : l0.length ≤ 300 := by rw [← hl0]; refine Nat.le_trans (listF_len _ _) ?_; have h9 := HDC.out.2.len; rw [HDC.out.1.1] at h9; omega
          have HLS := Lib.hid (show Calls Try.prog 25 #[.pointer (some ⟨b, 0, none⟩), .string ByteArray.empty] wb fun r w' => ∃ A c, r = .returned (.slice A l0.length c) ∧ Holds w (Star (Rs (.slice A l0.length c) l0) (Star (Dk b dc) (Star (Sm mo 0 (fun _ => none)) Emp))) w' from by
            have h9 := h_list hb1 ((sm_part _ _ _).star emp_part) (HDC.out.2.fit (by omega) (by omega)) ByteArray.empty (by decide)
            rw [hlc] at h9
            exact h9)
          have HL := Lib.hid (And.intro hl0 hll)
          have HWB := Lib.hid (And.intro hwb hmo)
          clear ha HS3 hb1 hl0 hlc hwb hmo
          go_wp2_with fail
          rw [← HWB.out.1, ← HWB.out.2]
          refine HLS.out.mono ?_
          rintro r wf ⟨Af, cf, rfl, hf⟩
          obtain ⟨wg, hwg⟩ : ∃ wg, wg = wf.alloc (.map #[] 0) := ⟨_, rfl⟩
          obtain ⟨mw, hmw⟩ : ∃ mw, mw = wf.heap.size := ⟨_, rfl⟩
          have HG := Lib.hid (show Holds w (Star (Bm mw 0 (fun _ => false)) (Star (Rs (.slice Af l0.length cf) l0) (Star (Dk b dc) (Star (Sm mo 0 (fun _ => none)) Emp)))) wg from by rw [hwg, hmw]; exact bm_made hf ((rs_part _ _).star ((dk_part b dc).star ((sm_part _ _ _).star emp_part))))
          clear HLS hf HWB
          go_wp2
          rw [← hwg, ← hmw]
          clear hwg hmw
          go_loopg [13] l0.length (fun g i wr => ∃ (q : Nat) (f1 : ByteArray → Option ByteArray) (f2 : ByteArray → Bool), q ≤ l0.length ∧ g = l0.length - q ∧ i = .int .i64 q ∧ Holds w (Star (Bm mw q f2) (Star (Rs (.slice Af l0.length cf) l0) (Star (Dk b dc) (Star (Sm mo q f1) Emp)))) wr ∧ (∀ p t, f1 p = some t → findF L p = some t) ∧ (∀ p, p ∈ l0.take q → ∀ t, findF L p = some t → f2 t = true))
          case atStart => exact ⟨0, _, _, Nat.zero_le _, rfl, rfl, HG.out, (fun p t h9 => by cases h9), (fun p hp => by simp at hp)⟩
          case round =>
            obtain ⟨q, f1, f2, hq, rfl, rfl, hi, hf1, hf2⟩ := hrel
            by_cases hlt : q < l0.length
            · have h1 : (q : Int) < l0.length := by omega
              have hj0 : (0 : Int) ≤ q := by omega
              have hi2 : Holds w (Star (Rs (.slice Af l0.length cf) l0) (Star (Bm mw q f2) (Star (Dk b dc) (Star (Sm mo q f1) Emp)))) wr := h_swap hi
              obtain ⟨ad, rfl, hB1, hcc⟩ := (rs_reads hi2).2 q hlt
              obtain ⟨x, hx⟩ : ∃ x, l0.getD q default = x := ⟨_, rfl⟩
              have hcell : ∀ (R9 : List Nat → World → Prop) (w9 : World), Holds w (Star (Rs (.slice (some ad) l0.length cf) l0) R9) w9 → w9.cell? (ad.add q) = some (.string x) := fun R9 w9 h9 => by
                obtain ⟨ad', ea, _, hc9⟩ := (rs_reads h9).2 q hlt
                have h8 := hc9 0 (by omega)
                injection ea with ea
                rw [hx, ← ea, add_add, Nat.mul_one, Nat.add_zero] at h8
                exact h8
              have e0 := hcell _ _ hi2
              have hmem : x ∈ l0 := by rw [← hx, List.getD_eq_getElem?_getD, List.getElem?_eq_getElem hlt]; simp
              have hfn : (findF L x).isSome = true := list_found (by rw [HL.out.1]; exact hmem)
              have hpz := HDC.out.2.path x (by show (findF (seenF dc.lies dc.rows) _).isSome = true; rw [HDC.out.1.1, HDC.out.1.2]; exact hfn)
              have hxm : x.size ≤ maxLen := by unfold maxLen; omega
              obtain ⟨y, hy⟩ : ∃ y, findF L x = some y := Option.isSome_iff_exists.1 hfn
              have hym : y.size ≤ maxLen := by have h9 := (path_size (by rw [← HDC.out.1.1]; exact HDC.out.2.rise) hy).2; have h8 := HDC.out.2.tak; rw [HDC.out.1.1] at h8; unfold maxLen; omega
              have hdr : Below wr.heap.size wr wr.drew := (Below.refl _ wr).drew
              have hi3 := hi.below ((bm_part _ _ _).star ((rs_part _ _).star ((dk_part b dc).star ((sm_part _ _ _).star emp_part)))) hdr
              have hi4 : Holds w (Star (Dk b dc) (Star (Bm mw q f2) (Star (Rs (.slice (some ad) l0.length cf) l0) (Star (Sm mo q f1) Emp)))) wr.drew := hi3.imp imp3
              have HR := Lib.hid (show Calls Try.prog 26 #[.pointer (some ⟨b, 0, none⟩), .string x] wr.drew fun r w' => r = .returned (.tuple #[.string y, .int .i64 0]) ∧ Holds w (Star (Dk b dc) (Star (Bm mw q f2) (Star (Rs (.slice (some ad) l0.length cf) l0) (Star (Sm mo q f1) Emp)))) w' from by
                have h9 := h_read hi4 ((bm_part _ _ _).star ((rs_part _ _).star ((sm_part _ _ _).star emp_part))) x hxm
                have h7 : findF (seenF dc.lies dc.rows) x = some y := by rw [HDC.out.1.1, HDC.out.1.2]; exact hy
                rw [HDC.out.2.up, h7] at h9
                exact h9)
              have HCELL := Lib.hid hcell
              have HFF := Lib.hid (And.intro hf1 hf2)
              have HXY := Lib.hid (And.intro hx hy)
              have hq3 : q ≤ 300 := by omega
              clear hi hi2 hi3 hi4 hcc hcell hmem hfn hpz hf1 hf2 hx hy hdr
              go_wp2_with fail
              refine wp_region_seq (fun W => W.cell? (ad.add q) = some (.string x)) [(0, false, 0), (1, false, 1), (2, false, 3), (3, false, 7), (4, false, 15), (5, false, 31), (6, false, 63), (7, false, 127), (8, false, 255), (9, false, 511), (10, true, 1023), (11, false, 2047), (12, false, 4095), (13, false, 8191), (14, true, 16383)]
                15 (by kernel_rfl) (by kernel_rfl) (by kernel_rfl) (fun d _ _ _ _ h => by cases d <;> exact h) (by kernel_rfl) (by kernel_rfl) (by rw [World.cell?_drew]; exact e0) ?_
              generalize wr.drew = wd at *
              refine seqH_take (.map (some mo)) rfl (Or.inl ⟨by rfl, fun W _ => by go_simp⟩) ?_
              go_simp
              refine seqH_take (.slice (some ad) l0.length cf) rfl (Or.inl ⟨by rfl, fun W _ => by go_simp⟩) ?_
              go_simp
              refine seqH_take (.int .i64 q) rfl (Or.inl ⟨by rfl, fun W _ => by go_simp⟩) ?_
              go_simp
              refine seqH_take (.pointer (some (ad.add q))) rfl (Or.inl ⟨by rfl, fun W _ => by go_simp⟩) ?_
              go_simp
              refine seqH_take (.string x) rfl (Or.inl ⟨by rfl, fun W hW => by go_simp⟩) ?_
              go_simp
              refine seqH_take (.pointer (some ⟨b, 0, none⟩)) rfl (Or.inl ⟨by rfl, fun W _ => by go_simp⟩) ?_
              go_simp
              refine seqH_take (.slice (some ad) l0.length cf) rfl (Or.inl ⟨by rfl, fun W _ => by go_simp⟩) ?_
              go_simp
              refine seqH_take (.int .i64 q) rfl (Or.inl ⟨by rfl, fun W _ => by go_simp⟩) ?_
              go_simp
              refine seqH_take (.pointer (some (ad.add q))) rfl (Or.inl ⟨by rfl, fun W _ => by go_simp⟩) ?_
              go_simp
              refine seqH_take (.string x) rfl (Or.inl ⟨by rfl, fun W hW => by go_simp⟩) ?_
              go_simp
              refine seqH_call rfl (by rfl) (fun K hK => ?_)
              have HK := Lib.hid hK
              clear hK
              go_simp
              refine HR.out.mono ?_
              rintro r we ⟨rfl, he⟩
              have he2 : Holds w (Star (Sm mo q f1) (Star (Dk b dc) (Star (Bm mw q f2) (Star (Rs (.slice (some ad) l0.length cf) l0) Emp)))) we := ((he.imp (imp_tail (imp_tail imp_swap))).imp (imp_tail imp_swap)).imp imp_swap
              have hPs : Part (Star (Dk b dc) (Star (Bm mw q f2) (Star (Rs (.slice (some ad) l0.length cf) l0) Emp))) := (dk_part b dc).star ((bm_part _ _ _).star ((rs_part _ _).star emp_part))
              obtain ⟨wu, hru, hu, hgu⟩ := sm_put he2 hPs (by omega) x y hxm hym
              have hu2 : Holds w (Star (Bm mw q f2) (Star (Sm mo (q + 1) (upd f1 x (some y))) (Star (Dk b dc) (Star (Rs (.slice (some ad) l0.length cf) l0) Emp)))) wu := hu.imp imp3
              have hru2 := sm_look hu hPs x y hxm (upd_same _ _ _)
              obtain ⟨wv, hrv, hv, hgv⟩ := bm_put hu2 ((sm_part _ _ _).star ((dk_part b dc).star ((rs_part _ _).star emp_part))) (by omega) y hym
              have hcu : wu.cell? (ad.add q) = some (.string x) := HCELL.out _ _ (show Holds w (Star (Rs (.slice (some ad) l0.length cf) l0) (Star (Bm mw q f2) (Star (Sm mo (q + 1) (upd f1 x (some y))) (Star (Dk b dc) Emp)))) wu from (hu2.imp (imp_tail (imp_tail imp_swap))).imp imp3)
              have hce : we.cell? (ad.add q) = some (.string x) := HCELL.out _ _ (show Holds w (Star (Rs (.slice (some ad) l0.length cf) l0) (Star (Dk b dc) (Star (Bm mw q f2) (Star (Sm mo q f1) Emp)))) we from he.imp imp3)
              have HV := Lib.hid (show Holds w (Star (Bm mw (q + 1) (upd f2 y true)) (Star (Rs (.slice (some ad) l0.length cf) l0) (Star (Dk b dc) (Star (Sm mo (q + 1) (upd f1 x (some y))) Emp)))) wv from (hv.imp (imp_tail ((imp_tail imp_swap).trans ((imp_swap).trans (imp_tail imp_swap)))) ))
              clear he he2 hu hu2 hv hgu hgv hPs HR
              refine HK.out _ _ hce ?_
              clear HK K
              go_simp
              refine seqH_take (.tuple #[.string y, .int .i64 0]) rfl (Or.inl ⟨by rfl, fun W _ => by go_simp⟩) ?_
              go_simp
              refine seqH_take (.string y) rfl (Or.inl ⟨by rfl, fun W _ => by go_simp⟩) ?_
              go_simp
              refine seqH_take (.int .i64 0) rfl (Or.inl ⟨by rfl, fun W _ => by go_simp⟩) ?_
              go_simp
              refine seqH_call rfl (by rfl) (fun K hK => ?_)
              have HK := Lib.hid hK
              clear hK
              go_simp
              refine HK.out _ _ hcu ?_
              clear HK K
              go_simp
              refine seqH_done ?_
              go_wp2
              go_roundg (l0.length - (q + 1))
              case rel => exact ⟨q + 1, _, _, by omega, rfl, by go_num, HV.out, (fun p t h9 => by
                unfold upd at h9
                by_cases e : p = x
                · rw [if_pos e] at h9; cases h9; rw [e]; exact HXY.out.2
                · rw [if_neg e] at h9; exact HFF.out.1 p t h9), (fun p hp t h9 => by
                rw [List.take_add_one, List.getElem?_eq_getElem hlt] at hp
                rcases List.mem_append.1 hp with hp | hp
                · exact upd_le (HFF.out.2 p hp t h9)
                · have e : p = x := by rw [← HXY.out.1, List.getD_eq_getElem?_getD, List.getElem?_eq_getElem hlt]; simpa using hp
                  rw [e, HXY.out.2] at h9
                  cases h9
                  exact upd_same _ _ _)⟩
              case measure => omega
            · have h1 : ¬ (q : Int) < l0.length := by omega
              obtain rfl : q = l0.length := by omega
              have hfw : ∀ p t, findF L p = some t → f2 t = true := fun p t hp => hf2 p (by rw [List.take_length, ← HL.out.1]; exact found_list hp) t hp
              have hkp : Kpt L f2 (fun _ => false) (n0 + 0) (15000 * (n0 + 0)) dc := by have h9 := calm_kpt (tf := fun _ => false) (wf := f2) HDC.out.2 HDC.out.1.2 (by rw [HDC.out.1.1]; exact hfw); rw [HDC.out.1.1] at h9; exact ⟨h9.good, h9.rows, h9.down, by have := h9.len; omega, by have := h9.tak; omega, h9.l0, h9.l1, h9.rise⟩
              have hkpa := kpt_arm hkp cat ckp hat9
              obtain ⟨wt, hwt⟩ : ∃ wt, wt = wr.alloc (.map #[] 0) := ⟨_, rfl⟩
              obtain ⟨mt, hmt⟩ : ∃ mt, mt = wr.heap.size := ⟨_, rfl⟩
              have ht1 : Holds w (Star (Bm mt 0 (fun _ => false)) (Star (Bm mw l0.length f2) (Star (Rs (.slice Af l0.length cf) l0) (Star (Dk b dc) (Star (Sm mo l0.length f1) Emp))))) wt := by rw [hwt, hmt]; exact bm_made hi ((bm_part _ _ _).star ((rs_part _ _).star ((dk_part b dc).star ((sm_part _ _ _).star emp_part))))
              have ht2 : Holds w (Star (Dk b dc) (Star (Bm mt 0 (fun _ => false)) (Star (Bm mw l0.length f2) (Star (Sm mo l0.length f1) Emp)))) wt := ((ht1.imp imp3).tail).imp imp3
              obtain ⟨S1, hS1⟩ : ∃ S1, S1 = Star (Sm mo l0.length f1) Emp := ⟨_, rfl⟩
              have hPS : Part S1 := by rw [hS1]; exact (sm_part _ _ _).star emp_part
              rw [← hS1] at ht2
              have HAR := Lib.hid (h_arm ht2 ((bm_part _ _ _).star ((bm_part _ _ _).star hPS)) cat ckp hk0 (by omega))
              have hcc0 : ∀ w9 : World, Below w.heap.size w w9 → w9.cell? ⟨w00.heap.size, 0, none⟩ = some (.int .i64 cat) ∧ w9.cell? ⟨w00.heap.size, 1, none⟩ = some (.int .u64 ckp) := fun w9 h9 => by
                have h8 := (h9.block _ hclt).trans HCUT.out
                exact ⟨by rw [cell_of_cells h8]; rfl, by rw [cell_of_cells h8]; rfl⟩
              have hct := hcc0 wr hi.top
              have hclr : w00.heap.size < wr.heap.size := Nat.lt_of_lt_of_le hclt hi.top.size
              obtain ⟨ec0, ec1⟩ := hct
              have HCC := Lib.hid hcc0
              have HS1 := Lib.hid hS1
              have HF1 := Lib.hid hf1
              obtain ⟨da, hda⟩ : ∃ da, armF dc cat ckp = da := ⟨_, rfl⟩
              rw [hda] at HAR hkpa
              have HKA := Lib.hid hkpa
              have hll9 := HL.out.2
              obtain ⟨nl, hnl⟩ : ∃ nl, nl = l0.length := ⟨_, rfl⟩
              rw [← hnl] at HAR hll9
              have HNL := Lib.hid hnl
              have HWT := Lib.hid (And.intro hwt hmt)
              clear hi hf1 hf2 hfw hkp hkpa ht1 ht2 hcc0 hS1 hda hnl hwt hmt
              go_wp2_with fail
              rw [← HWT.out.1, ← HWT.out.2]
              refine HAR.out.mono ?_
              rintro r wx ⟨rfl, hx⟩
              have HX := Lib.hid hx
              clear hx HAR HWT ec0 ec1
              go_wp2
              go_loopg [15] l'.length (fun g i wr => ∃ (j : Nat) (d : Dsk) (tf wf : ByteArray → Bool) (nt nw : Nat), j ≤ l'.length ∧ g = l'.length - j ∧ i = .int .i64 j ∧ Holds w (Star (Dk b d) (Star (Bm mt nt tf) (Star (Bm mw nw wf) S1))) wr ∧ Kpt L wf tf (n0 + j) (15000 * (n0 + j)) d ∧ nt ≤ 2 * j ∧ nw ≤ nl + j)
              case atStart => exact ⟨0, da, _, _, 0, nl, Nat.zero_le _, rfl, rfl, HX.out, HKA.out, by omega, by omega⟩
              case round =>
                obtain ⟨j, d, tf, wf, nt, nw, hj, rfl, rfl, hh, hkp, hnt, hnw⟩ := hrel
                have hP3 : Part (Star (Bm mt nt tf) (Star (Bm mw nw wf) S1)) := (bm_part _ _ _).star ((bm_part _ _ _).star hPS)
                have HH := Lib.hid hh
                have HKP := Lib.hid hkp
                by_cases hlt : j < l'.length
                · have h1 : (j : Int) < l'.length := by omega
                  have hj0 : (0 : Int) ≤ j := by omega
                  have HDN := Lib.hid (h_down hh hP3)
                  cases hdd : d.down
                  · rw [hdd] at HDN
                    obtain ⟨ad, rfl, hB1, hcc⟩ := (HP'.out.below hh.top) j hlt
                    obtain ⟨hok, h15⟩ := act_ok hlt hs' HZ'.out
                    obtain ⟨a, ha⟩ : ∃ a, l'.getD j default = a := ⟨_, rfl⟩
                    rw [ha] at hcc hok h15
                    obtain ⟨k, p, t, at_, keep⟩ := a
                    have e0 : wr.cell? (ad.add (j * 5)) = some (.int .i64 k) := hcc 0 (by omega)
                    have e1 : wr.cell? ⟨(ad.add (j * 5)).block, (ad.add (j * 5)).off + 1, none⟩ = some (.string p) := hcc 1 (by omega)
                    have e2 : wr.cell? ⟨(ad.add (j * 5)).block, (ad.add (j * 5)).off + 2, none⟩ = some (.string t) := hcc 2 (by omega)
                    have e3 : wr.cell? ⟨(ad.add (j * 5)).block, (ad.add (j * 5)).off + 3, none⟩ = some (.int .i64 at_) := hcc 3 (by omega)
                    have e4 : wr.cell? ⟨(ad.add (j * 5)).block, (ad.add (j * 5)).off + 4, none⟩ = some (.int .u64 keep) := hcc 4 (by omega)
                    have h15' : p.size + t.size ≤ 15000 := h15
                    have hpm : p.size ≤ maxLen := by unfold maxLen; omega
                    have htm : t.size ≤ maxLen := by unfold maxLen; omega
                    obtain ⟨W0, hW0⟩ : ∃ W0, W0 = wr.alloc (.cells #[.int .i64 k, .string p, .string t, .int .i64 at_, .int .u64 keep] 39) := ⟨_, rfl⟩
                    obtain ⟨NA, hNA⟩ : ∃ NA, NA = wr.heap.size := ⟨_, rfl⟩
                    have hbA : Below wr.heap.size wr W0 := by rw [hW0]; exact (Below.refl _ wr).alloc (Nat.le_refl _) _
                    have hA0 : W0.heap[NA]? = some (.cells #[.int .i64 k, .string p, .string t, .int .i64 at_, .int .u64 keep] 39 (0, 0)) := by rw [hW0, hNA]; exact heap_alloc_new wr _
                    have hh0 : Holds w (Star (Dk b d) (Star (Bm mt nt tf) (Star (Bm mw nw wf) S1))) W0 := hh.below ((dk_part b d).star hP3) hbA
                    have HH0 := Lib.hid hh0
                    have hNlt : NA < W0.heap.size := (Array.getElem?_eq_some_iff.1 hA0).1
                    have HWN := Lib.hid (And.intro hW0 hNA)
                    by_cases hk13 : 1 ≤ k ∧ k ≤ 3
                    · have hk1 : ¬ k < 1 := by omega
                      have hk3 : ¬ 3 < k := by omega
                      have hmtl : mt ≠ NA := by have h9 := bm_lt (h_swap hh); rw [hNA]; omega
                      have hmwl : mw ≠ NA := by have h9 := bm_lt (hh.imp imp3); rw [hNA]; omega
                      obtain ⟨W1, hr1, hh1, hg1⟩ := bm_put (h_swap hh0) ((dk_part b d).star ((bm_part _ _ _).star hPS)) (by omega) p hpm
                      have hA1 : W1.heap[NA]? = some (.cells #[.int .i64 k, .string p, .string t, .int .i64 at_, .int .u64 keep] 39 (0, 0)) := (hg1.block NA hNlt (fun e => hmtl (by injection e with e; exact e.symm))).trans hA0
                      have hN1 : NA < W1.heap.size := (Array.getElem?_eq_some_iff.1 hA1).1
                      have step : ∃ (W2 : World) (tf' wf' : ByteArray → Bool) (nt' nw' : Nat), Holds w (Star (Dk b d) (Star (Bm mt nt' tf') (Star (Bm mw nw' wf') S1))) W2 ∧ W2.heap[NA]? = some (.cells #[.int .i64 k, .string p, .string t, .int .i64 at_, .int .u64 keep] 39 (0, 0)) ∧ (∀ s, wf s = true → wf' s = true) ∧ (∀ s, tf s = true → tf' s = true) ∧ tf' p = true ∧ (k = 1 → wf' t = true) ∧ (k = 2 → tf' t = true) ∧ nt' ≤ 2 * (j + 1) ∧ nw' ≤ nl + (j + 1) ∧
                          (k = 1 → (Instr.mapUpdate 60 (.map (some mw)) (.string t) (.bool true)).run Try.prog W1 = .ok () W2) ∧ (k = 2 → (Instr.mapUpdate 60 (.map (some mt)) (.string t) (.bool true)).run Try.prog W1 = .ok () W2) ∧ (k = 3 → W2 = W1) := by
                        by_cases q1 : k = 1
                        · obtain ⟨W2, hr2, hh2, hg2⟩ := bm_put (show Holds w (Star (Bm mw nw wf) (Star (Bm mt (nt + 1) (upd tf p true)) (Star (Dk b d) S1))) W1 from (hh1.imp (imp_tail imp_swap)).imp imp_swap) ((bm_part _ _ _).star ((dk_part b d).star hPS)) (by omega) t htm
                          refine ⟨W2, upd tf p true, upd wf t true, nt + 1, nw + 1, (hh2.imp (imp_tail imp_swap)).imp imp_swap |>.imp (imp_tail imp_swap), (hg2.block NA hN1 (fun e => hmwl (by injection e with e; exact e.symm))).trans hA1, fun s hs => upd_le hs, fun s hs => upd_le hs, upd_same _ _ _, fun _ => upd_same _ _ _, fun h9 => by omega, by omega, by omega, fun _ => hr2, fun h9 => by omega, fun h9 => by omega⟩
                        · by_cases q2 : k = 2
                          · obtain ⟨W2, hr2, hh2, hg2⟩ := bm_put hh1 ((dk_part b d).star ((bm_part _ _ _).star hPS)) (by omega) t htm
                            exact ⟨W2, upd (upd tf p true) t true, wf, nt + 1 + 1, nw, h_swap hh2, (hg2.block NA hN1 (fun e => hmtl (by injection e with e; exact e.symm))).trans hA1, fun s hs => hs, fun s hs => upd_le (upd_le hs), upd_le (upd_same _ _ _), fun h9 => absurd h9 q1, fun _ => upd_same _ _ _, by omega, by omega, fun h9 => absurd h9 q1, fun _ => hr2, fun h9 => by omega⟩
                          · exact ⟨W1, upd tf p true, wf, nt + 1, nw, h_swap hh1, hA1, fun s hs => hs, fun s hs => upd_le hs, upd_same _ _ _, fun h9 => absurd h9 q1, fun h9 => absurd h9 q2, by omega, by omega, fun h9 => absurd h9 q1, fun h9 => absurd h9 q2, fun _ => rfl⟩
                      obtain ⟨W2, tf', wf', nt', nw', hh2, hA2, mw1, mt1, tp, wt1, tt2, hnt2, hnw2, u1, u2, u3⟩ := step
                      have hkp2 := (hkp.more mw1 mt1)
                      have hkd := kpt_do hkp2 hdd (k, p, t) (ok_act tp wt1 tt2)
                      have ea := eff_act d k p t at_ keep hk13.1 hk13.2
                      have hP3' : Part (Star (Bm mt nt' tf') (Star (Bm mw nw' wf') S1)) := (bm_part _ _ _).star ((bm_part _ _ _).star hPS)
                      have HD := Lib.hid (do_p hh2 hP3' (hkp.fit (by omega) (by omega)) (k, p, t, at_, keep) hok)
                      unfold acV at HD
                      rw [ea] at HD
                      simp only at HD
                      have hwt9 : Hk.wt (k, p, t) ≤ 15000 := h15
                      have HKD := Lib.hid (show Kpt L wf' tf' (n0 + (j + 1)) (15000 * (n0 + (j + 1))) (doF d (k, p, t)).1 from ⟨hkd.good, hkd.rows, hkd.down, by have := hkd.len; omega, by have := hkd.tak; omega, hkd.l0, hkd.l1, hkd.rise⟩)
                      have a0 : W0.cell? ⟨NA, 0, none⟩ = some (.int .i64 k) := by rw [cell_of_cells hA0]; rfl
                      have a1 : W0.cell? ⟨NA, 1, none⟩ = some (.string p) := by rw [cell_of_cells hA0]; rfl
                      have a2 : W0.cell? ⟨NA, 2, none⟩ = some (.string t) := by rw [cell_of_cells hA0]; rfl
                      have a3 : W0.cell? ⟨NA, 3, none⟩ = some (.int .i64 at_) := by rw [cell_of_cells hA0]; rfl
                      have a4 : W0.cell? ⟨NA, 4, none⟩ = some (.int .u64 keep) := by rw [cell_of_cells hA0]; rfl
                      have b0 : W1.cell? ⟨NA, 0, none⟩ = some (.int .i64 k) := by rw [cell_of_cells hA1]; rfl
                      have b1 : W1.cell? ⟨NA, 1, none⟩ = some (.string p) := by rw [cell_of_cells hA1]; rfl
                      have b2 : W1.cell? ⟨NA, 2, none⟩ = some (.string t) := by rw [cell_of_cells hA1]; rfl
                      have b3 : W1.cell? ⟨NA, 3, none⟩ = some (.int .i64 at_) := by rw [cell_of_cells hA1]; rfl
                      have b4 : W1.cell? ⟨NA, 4, none⟩ = some (.int .u64 keep) := by rw [cell_of_cells hA1]; rfl
                      have d0 : W2.cell? ⟨NA, 0, none⟩ = some (.int .i64 k) := by rw [cell_of_cells hA2]; rfl
                      have d1 : W2.cell? ⟨NA, 1, none⟩ = some (.string p) := by rw [cell_of_cells hA2]; rfl
                      have d2 : W2.cell? ⟨NA, 2, none⟩ = some (.string t) := by rw [cell_of_cells hA2]; rfl
                      have d3 : W2.cell? ⟨NA, 3, none⟩ = some (.int .i64 at_) := by rw [cell_of_cells hA2]; rfl
                      have d4 : W2.cell? ⟨NA, 4, none⟩ = some (.int .u64 keep) := by rw [cell_of_cells hA2]; rfl
                      clear hh hh0 hh1 hh2 hg1 hA0 hA1 hA2 hbA hkp hkp2 hkd ea mw1 mt1 tp wt1 tt2 hok hcc ha h15 hP3' h15' hwt9 HH HH0 HKP HWN
                      subst hW0
                      subst hNA
                      have HUU := Lib.hid (And.intro u1 (And.intro u2 u3))
                      clear u1 u2 u3
                      by_cases q1 : k = 1
                      · subst q1
                        have hr2 := HUU.out.1 rfl
                        go_wp2_with (go_at_call 21; refine HDN.out.mono ?_; rintro r wr ⟨rfl, rfl⟩)
                        refine HD.out.mono ?_
                        rintro r w5 ⟨A5, c5, rfl, h5⟩
                        have H5 := Lib.hid h5.tail
                        clear h5 HD
                        go_wp2
                        go_roundg (l'.length - (j + 1))
                        case rel => exact ⟨j + 1, _, _, _, nt', nw', by omega, rfl, by go_num, H5.out, HKD.out, hnt2, hnw2⟩
                        case measure => omega
                      · by_cases q2 : k = 2
                        · subst q2
                          have hr2 := HUU.out.2.1 rfl
                          go_wp2_with (go_at_call 21; refine HDN.out.mono ?_; rintro r wr ⟨rfl, rfl⟩)
                          refine HD.out.mono ?_
                          rintro r w5 ⟨A5, c5, rfl, h5⟩
                          have H5 := Lib.hid h5.tail
                          clear h5 HD
                          go_wp2
                          go_roundg (l'.length - (j + 1))
                          case rel => exact ⟨j + 1, _, _, _, nt', nw', by omega, rfl, by go_num, H5.out, HKD.out, hnt2, hnw2⟩
                          case measure => omega
                        · obtain rfl : k = 3 := by omega
                          have hr2 := HUU.out.2.2 rfl
                          subst hr2
                          go_wp2_with (go_at_call 21; refine HDN.out.mono ?_; rintro r wr ⟨rfl, rfl⟩)
                          refine HD.out.mono ?_
                          rintro r w5 ⟨A5, c5, rfl, h5⟩
                          have H5 := Lib.hid h5.tail
                          clear h5 HD
                          go_wp2
                          go_roundg (l'.length - (j + 1))
                          case rel => exact ⟨j + 1, _, _, _, nt', nw', by omega, rfl, by go_num, H5.out, HKD.out, hnt2, hnw2⟩
                          case measure => omega
                    · subst hW0
                      subst hNA
                      have HR0 := Lib.hid (show Kpt L wf tf (n0 + (j + 1)) (15000 * (n0 + (j + 1))) d from ⟨hkp.good, hkp.rows, hkp.down, by have := hkp.len; omega, by have := hkp.tak; omega, hkp.l0, hkp.l1, hkp.rise⟩)
                      clear hh hh0 hA0 hbA hkp hok hcc ha h15 h15' HH HKP HWN
                      by_cases hk1 : k < 1
                      · go_wp2_with (go_at_call 21; refine HDN.out.mono ?_; rintro r wr ⟨rfl, rfl⟩)
                        go_roundg (l'.length - (j + 1))
                        case rel => exact ⟨j + 1, d, tf, wf, nt, nw, by omega, rfl, by go_num, HH0.out, HR0.out, by omega, by omega⟩
                        case measure => omega
                      · have hk3 : 3 < k := by omega
                        go_wp2_with (go_at_call 21; refine HDN.out.mono ?_; rintro r wr ⟨rfl, rfl⟩)
                        go_roundg (l'.length - (j + 1))
                        case rel => exact ⟨j + 1, d, tf, wf, nt, nw, by omega, rfl, by go_num, HH0.out, HR0.out, by omega, by omega⟩
                        case measure => omega
                  · clear hh hkp HDN
                    have HDN2 := Lib.hid (show Calls Try.prog 21 #[.pointer (some ⟨b, 0, none⟩)] wr fun r w' => r = .returned (.bool true) ∧ w' = wr from by have h9 := h_down HH.out hP3; rw [hdd] at h9; exact h9)
                    have hfitd : Fit d := HKP.out.fit (by omega) (by omega)
                    obtain ⟨d9, hd9⟩ : ∃ d9, d9 = ({ d with down := false } : Dsk) := ⟨_, rfl⟩
                    have HST := Lib.hid (show Calls Try.prog 28 #[.pointer (some ⟨b, 0, none⟩)] wr fun r w' => r = .returned (.tuple #[]) ∧ Holds w (Star (Dk b d9) (Star (Bm mt nt tf) (Star (Bm mw nw wf) S1))) w' from by have h9 := h_start HH.out hP3; rw [← hd9] at h9; exact h9)
                    have H9 := Lib.hid (show d9.down = false ∧ d9.rows = [] ∧ Hk.Good L wf tf d9.lies ∧ Rise d9.lies ∧ Fit d9 ∧ takenF d9.lies ≤ 500000000 from by rw [hd9]; exact ⟨rfl, HKP.out.down hdd, HKP.out.good, HKP.out.rise, ⟨hfitd.len, hfitd.tak, hfitd.l0, hfitd.l1⟩, (show takenF d.lies ≤ 500000000 from by have := hfitd.tak; omega)⟩)
                    clear hd9 hfitd
                    go_wp2_with (go_at_call 21; refine HDN2.out.mono ?_; rintro r wr ⟨rfl, rfl⟩)
                    refine HST.out.mono ?_
                    rintro r wm ⟨rfl, hm9⟩
                    obtain ⟨M, hM⟩ : ∃ M, d9.lies = M := ⟨_, rfl⟩
                    obtain ⟨l9, hl9⟩ : ∃ l9, listF M ByteArray.empty = l9 := ⟨_, rfl⟩
                    have hs9 : seenF d9.lies d9.rows = M := by rw [H9.out.2.1, hM]; rfl
                    have hlc9 : listD d9 ByteArray.empty = l9 := by unfold listD; rw [if_neg (by rw [H9.out.1]; decide), hs9]; exact hl9
                    have hll9' : l9.length ≤ 4000 := by rw [← hl9]; refine Nat.le_trans (listF_len _ _) ?_; have h9 := H9.out.2.2.2.2.1.len; rw [hM] at h9; omega
                    have HLS9 := Lib.hid (show Calls Try.prog 25 #[.pointer (some ⟨b, 0, none⟩), .string ByteArray.empty] wm fun r w' => ∃ A c, r = .returned (.slice A l9.length c) ∧ Holds w (Star (Rs (.slice A l9.length c) l9) (Star (Dk b d9) (Star (Bm mt nt tf) (Star (Bm mw nw wf) S1)))) w' from by
                      have h9 := h_list hm9 hP3 H9.out.2.2.2.2.1 ByteArray.empty (by decide)
                      rw [hlc9] at h9
                      exact h9)
                    have H99 := Lib.hid (And.intro hM (And.intro hl9 hs9))
                    clear hm9 HST HDN2 hM hl9 hs9 hlc9
                    go_wp2_with fail
                    refine HLS9.out.mono ?_
                    rintro r wn ⟨An, cn, rfl, hn9⟩
                    have HN9 := Lib.hid hn9
                    clear hn9 HLS9
                    go_wp2
                    go_loopg [18] l9.length (fun g i wr => ∃ q : Nat, q ≤ l9.length ∧ g = l9.length - q ∧ i = .int .i64 q ∧ Holds w (Star (Rs (.slice An l9.length cn) l9) (Star (Dk b d9) (Star (Bm mt nt tf) (Star (Bm mw nw wf) S1)))) wr)
                    case atStart => exact ⟨0, Nat.zero_le _, rfl, rfl, HN9.out⟩
                    case round =>
                      obtain ⟨q, hq, rfl, rfl, hi⟩ := hrel
                      by_cases hlt : q < l9.length
                      · have h1 : (q : Int) < l9.length := by omega
                        have hj0 : (0 : Int) ≤ q := by omega
                        obtain ⟨ad, rfl, hB1, hcc⟩ := (rs_reads hi).2 q hlt
                        obtain ⟨x, hx⟩ : ∃ x, l9.getD q default = x := ⟨_, rfl⟩
                        have e0 : wr.cell? (ad.add q) = some (.string x) := by
                          have h8 := hcc 0 (by omega)
                          rw [hx, add_add, Nat.mul_one, Nat.add_zero] at h8
                          exact h8
                        have hmem : x ∈ l9 := by rw [← hx, List.getD_eq_getElem?_getD, List.getElem?_eq_getElem hlt]; simp
                        obtain ⟨y, hy⟩ : ∃ y, findF M x = some y := Option.isSome_iff_exists.1 (list_found (by rw [H99.out.2.1]; exact hmem))
                        have hsz := path_size (by rw [← H99.out.1]; exact H9.out.2.2.2.1) hy
                        have hmx : takenF M ≤ 500000000 := by rw [← H99.out.1]; exact H9.out.2.2.2.2.2
                        have hxm : x.size ≤ maxLen := by unfold maxLen; omega
                        have hym : y.size ≤ maxLen := by unfold maxLen; omega
                        have hwy : wf y = true := H9.out.2.2.1.1 x y (by rw [H99.out.1]; exact hy)
                        have HR := Lib.hid (show Calls Try.prog 26 #[.pointer (some ⟨b, 0, none⟩), .string x] wr fun r w' => r = .returned (.tuple #[.string y, .int .i64 0]) ∧ Holds w (Star (Dk b d9) (Star (Rs (.slice (some ad) l9.length cn) l9) (Star (Bm mt nt tf) (Star (Bm mw nw wf) S1)))) w' from by
                          have h9 := h_read (h_swap hi) ((rs_part _ _).star ((bm_part _ _ _).star ((bm_part _ _ _).star hPS))) x hxm
                          rw [H9.out.1, H99.out.2.2, hy] at h9
                          exact h9)
                        clear hi hcc hmem hsz hmx hx hy
                        go_wp2_with fail
                        refine HR.out.mono ?_
                        rintro r wo ⟨rfl, ho⟩
                        have hlk := bm_look (show Holds w (Star (Bm mw nw wf) (Star (Dk b d9) (Star (Rs (.slice (some ad) l9.length cn) l9) (Star (Bm mt nt tf) S1)))) wo from ((ho.imp (imp_tail (imp_tail imp_swap))).imp (imp_tail imp_swap)).imp imp_swap) ((dk_part b d9).star ((rs_part _ _).star ((bm_part _ _ _).star hPS))) y hym
                        rw [hwy] at hlk
                        have HO := Lib.hid (h_swap ho)
                        clear ho HR
                        go_wp2
                        go_roundg (l9.length - (q + 1))
                        case rel => exact ⟨q + 1, by omega, rfl, by go_num, HO.out⟩
                        case measure => omega
                      · have h1 : ¬ (q : Int) < l9.length := by omega
                        have hi2 : Holds w (Star (Dk b d9) (Star (Bm mt nt tf) (Star (Bm mw nw wf) S1))) wr := hi.tail
                        have hi3 : Holds w (Star (Sm mo nl f1) (Star (Dk b d9) (Star (Bm mt nt tf) (Star (Bm mw nw wf) Emp)))) wr := by
                          rw [HS1.out, ← HNL.out] at hi2
                          exact ((hi2.imp (imp_tail (imp_tail imp_swap))).imp (imp_tail imp_swap)).imp imp_swap
                        obtain ⟨_, ⟨_, D, hown, hD⟩, _, _⟩ := hi3.head ((dk_part b d9).star ((bm_part _ _ _).star ((bm_part _ _ _).star emp_part)))
                        have HI2 := Lib.hid hi2
                        have HOD := Lib.hid (And.intro hown hD)
                        clear hi hi2 hi3 hown hD
                        go_wp2_with (at_range; refine wpList_range_own _ rfl _ 58 rfl 9 9 klaw Try.underlying58 (plainElem Try.prog 9) mo nl D rfl HOD.out.1 ?_; intro w8 hr8 hg8 hs8)
                        have hb8 : Below wr.heap.size wr w8 := ⟨hg8.os, hg8.tape, hg8.output, hg8.size, fun k hk => hg8.block k hk (by simp)⟩
                        obtain ⟨RR, hRR⟩ : ∃ RR, RR = wr.heap.size := ⟨_, rfl⟩
                        have HI8 := Lib.hid (show Holds w (Star (Ig RR) (Star (Dk b d9) (Star (Bm mt nt tf) (Star (Bm mw nw wf) S1)))) w8 from by rw [hRR]; exact HI2.out.add ((dk_part b d9).star hP3) hb8 (T := Ig wr.heap.size) (A := [wr.heap.size]) ⟨rfl, by omega⟩ (fun k hk => by simp at hk; omega))
                        rw [← hRR] at hr8 ⊢
                        have HR8 := Lib.hid hr8
                        clear hb8 hr8 hg8 hs8 hRR HI2
                        go_loopw [21] (fun _ wr => ∃ (left : Lit → Bool) (cnt : Nat), wr.ranges (H := Unit) Try.prog 9 (plainElem Try.prog 9) mo RR nl D left cnt ∧ Holds w (Star (Ig RR) (Star (Dk b d9) (Star (Bm mt nt tf) (Star (Bm mw nw wf) S1)))) wr) (fun _ wr => wr.rangeLeft mo RR)
                        case atStart => exact ⟨_, _, HR8.out, HI8.out⟩
                        case round =>
                          obtain ⟨left, cnt, hrg, hig⟩ := hrel
                          have HG := Lib.hid (And.intro hrg hig)
                          clear hrg hig
                          go_wp2_with (at_next; refine wpList_next_str _ rfl _ rfl mo RR nl D left cnt rfl HG.out.1 ?_ ?_)
                          · have HWA := Lib.hid (show Calls Try.prog 22 #[.pointer (some ⟨b, 0, none⟩)] wr fun r w' => r = .returned (.int .i64 0) ∧ w' = wr from by have h9 := h_waiting (HG.out.2.tail) hP3; rw [H9.out.2.1] at h9; exact h9)
                            have HBF := Lib.hid (HB0.out.trans (HG.out.2.top.mono HB0.out.size))
                            go_wp2_with fail
                            refine HWA.out.mono ?_
                            rintro r wr ⟨rfl, rfl⟩
                            go_wp2
                            go_ret
                            exact ⟨rfl, HBF.out⟩
                          · intro p t w1 left' cnt1 hpl hhas hrg1 hlt1 hg1 hen
                            have hif : (f1 p).isSome = true := by rw [← (HOD.out.2 p).1]; exact hhas
                            obtain ⟨u, hu⟩ : ∃ u, f1 p = some u := Option.isSome_iff_exists.1 hif
                            have huL := HF1.out p u hu
                            have hig1 := ig_turn HG.out.2 ((dk_part b d9).star hP3) hg1
                            have hig2 : Holds w (Star (Dk b d9) (Star (Ig RR) (Star (Bm mt nt tf) (Star (Bm mw nw wf) S1)))) w1 := h_swap hig1
                            have hPI : Part (Star (Ig RR) (Star (Bm mt nt tf) (Star (Bm mw nw wf) S1))) := (ig_part _).star hP3
                            have hRead : ∃ X C, (tf p = false → X = u ∧ C = 0) ∧ Calls Try.prog 26 #[.pointer (some ⟨b, 0, none⟩), .string p] w1 fun r w' => r = .returned (.tuple #[.string X, .int .i64 C]) ∧ Below w1.heap.size w1 w' ∧ Holds w (Star (Dk b d9) (Star (Ig RR) (Star (Bm mt nt tf) (Star (Bm mw nw wf) S1)))) w' := by
                              obtain ⟨FA, hFA, _, _⟩ := hig2.head hPI
                              refine ⟨(if d9.down then ByteArray.empty else texOf (findF (seenF d9.lies d9.rows) p)), (if d9.down then 8 else if (findF (seenF d9.lies d9.rows) p).isSome then 0 else 5), fun htf => ?_, (read_d w1 b d9 FA hFA p hpl).mono ?_⟩
                              · have h7 : findF (seenF d9.lies d9.rows) p = some u := by rw [H99.out.2.2, ← H99.out.1, H9.out.2.2.1.2 p htf]; exact huL
                                rw [H9.out.1, h7]
                                exact ⟨rfl, rfl⟩
                              · rintro r w' ⟨rfl, h9⟩
                                exact ⟨rfl, h9, hig2.below ((dk_part b d9).star hPI) h9⟩
                            obtain ⟨X, C, hXC, hcall⟩ := hRead
                            have HCL := Lib.hid hcall
                            have HXC := Lib.hid hXC
                            have HLF := Lib.hid (And.intro hrg1 (And.intro hlt1 HG.out.1.left_eq))
                            have HU := Lib.hid hu
                            have huz : u.size ≤ maxLen := by
                              have h9 := (path_size (by rw [← HDC.out.1.1]; exact HDC.out.2.rise) huL).2
                              have h8 := HDC.out.2.tak
                              rw [HDC.out.1.1] at h8
                              unfold maxLen; omega
                            clear hhas hif hu huL hig1 hig2 hPI hcall hXC hrg1 hlt1 hg1 HG
                            go_wp2_with fail
                            refine HCL.out.mono ?_
                            rintro r wq ⟨rfl, hbq, hq9⟩
                            have hrq := HLF.out.1.kept (row := none) ⟨hbq.os, hbq.tape, hbq.output, hbq.size, fun k hk _ => hbq.block k hk⟩ (by simp) (by simp)
                            have hlt9 := bm_look (show Holds w (Star (Bm mt nt tf) (Star (Dk b d9) (Star (Ig RR) (Star (Bm mw nw wf) S1)))) wq from (hq9.imp (imp_tail imp_swap)).imp imp_swap) ((dk_part b d9).star ((ig_part _).star ((bm_part _ _ _).star hPS))) p hpl
                            have hlo := sm_look (show Holds w (Star (Sm mo nl f1) (Star (Dk b d9) (Star (Ig RR) (Star (Bm mt nt tf) (Star (Bm mw nw wf) Emp))))) wq from by
                              have h9 := hq9
                              rw [HS1.out, ← HNL.out] at h9
                              exact (((h9.imp (imp_tail (imp_tail (imp_tail imp_swap)))).imp (imp_tail (imp_tail imp_swap))).imp (imp_tail imp_swap)).imp imp_swap) ((dk_part b d9).star ((ig_part _).star ((bm_part _ _ _).star ((bm_part _ _ _).star emp_part)))) p u hpl HU.out
                            have HQ := Lib.hid (And.intro hrq (h_swap hq9))
                            have hfin : wq.rangeLeft mo RR < wr.rangeLeft mo RR := by rw [hrq.left_eq, HLF.out.2.2]; exact HLF.out.2.1
                            have HFN := Lib.hid hfin
                            clear hbq hq9 hrq HCL hfin hen
                            cases htf : tf p
                            · obtain ⟨rfl, rfl⟩ := HXC.out htf
                              rw [htf] at hlt9
                              have hsl := str_self X
                              go_wp2
                              go_roundw
                              case rel => exact ⟨_, _, HQ.out.1, HQ.out.2⟩
                              case measure => exact HFN.out
                            · rw [htf] at hlt9
                              go_wp2
                              go_roundw
                              case rel => exact ⟨_, _, HQ.out.1, HQ.out.2⟩
                              case measure => exact HFN.out
                · have h1 : ¬ (j : Int) < l'.length := by omega
                  clear hh hkp
                  cases hdd : d.down
                  · skip
                    have HDN2 := Lib.hid (show Calls Try.prog 21 #[.pointer (some ⟨b, 0, none⟩)] wr fun r w' => r = .returned (.bool false) ∧ w' = wr from by have h9 := h_down HH.out hP3; rw [hdd] at h9; exact h9)
                    have hfitd : Fit d := HKP.out.fit (by omega) (by omega)
                    obtain ⟨k8, k9, k10⟩ := kpt_cut HKP.out hdd ckp
                    have HAR2 := Lib.hid (h_arm HH.out hP3 1 ckp hk0 (by omega))
                    obtain ⟨_, ec1⟩ := HCC.out wr HH.out.top
                    obtain ⟨d8, hd8⟩ : ∃ d8, (syncF (armF d 1 ckp)).1 = d8 := ⟨_, rfl⟩
                    have hsy8 : syncF (armF d 1 ckp) = (d8, 8) := Prod.ext hd8 k8
                    rw [hd8] at k9 k10
                    have HK8 := Lib.hid (And.intro k9 (And.intro k10 hsy8))
                    have hfa : Fit (armF d 1 ckp) := ⟨hfitd.len, hfitd.tak, by show (0 : Int) ≤ 1; decide, by show (1 : Int) ≤ 9223372036854775807; decide⟩
                    clear k8 k9 k10 hd8 hsy8 hfitd
                    go_wp2_with (go_at_call 21; refine HDN2.out.mono ?_; rintro r wr ⟨rfl, rfl⟩)
                    refine HAR2.out.mono ?_
                    rintro r wk ⟨rfl, hk⟩
                    have HSC := Lib.hid (show Calls Try.prog 24 #[.pointer (some ⟨b, 0, none⟩)] wk fun r w' => r = .returned (.int .i64 8) ∧ Holds w (Star (Dk b d8) (Star (Bm mt nt tf) (Star (Bm mw nw wf) S1))) w' from by have h9 := h_sync hk hP3 hfa; rw [HK8.out.2.2] at h9; exact h9)
                    clear hk HAR2 ec1 hfa
                    go_wp2_with fail
                    refine HSC.out.mono ?_
                    rintro r wl ⟨rfl, hl9⟩
                    obtain ⟨d9, hd9⟩ : ∃ d9, d9 = ({ d8 with down := false } : Dsk) := ⟨_, rfl⟩
                    have HST := Lib.hid (show Calls Try.prog 28 #[.pointer (some ⟨b, 0, none⟩)] wl fun r w' => r = .returned (.tuple #[]) ∧ Holds w (Star (Dk b d9) (Star (Bm mt nt tf) (Star (Bm mw nw wf) S1))) w' from by have h9 := h_start hl9 hP3; rw [← hd9] at h9; exact h9)
                    have hfitd : Fit d8 := HK8.out.1.fit (by omega) (by omega)
                    have H9 := Lib.hid (show d9.down = false ∧ d9.rows = [] ∧ Hk.Good L wf tf d9.lies ∧ Rise d9.lies ∧ Fit d9 ∧ takenF d9.lies ≤ 500000000 from by rw [hd9]; exact ⟨rfl, HK8.out.2.1, HK8.out.1.good, HK8.out.1.rise, ⟨hfitd.len, hfitd.tak, hfitd.l0, hfitd.l1⟩, (show takenF d8.lies ≤ 500000000 from by have := hfitd.tak; omega)⟩)
                    clear hd9 hfitd hl9 HSC HK8
                    go_wp2_with fail
                    refine HST.out.mono ?_
                    rintro r wm ⟨rfl, hm9⟩
                    obtain ⟨M, hM⟩ : ∃ M, d9.lies = M := ⟨_, rfl⟩
                    obtain ⟨l9, hl9⟩ : ∃ l9, listF M ByteArray.empty = l9 := ⟨_, rfl⟩
                    have hs9 : seenF d9.lies d9.rows = M := by rw [H9.out.2.1, hM]; rfl
                    have hlc9 : listD d9 ByteArray.empty = l9 := by unfold listD; rw [if_neg (by rw [H9.out.1]; decide), hs9]; exact hl9
                    have hll9' : l9.length ≤ 4000 := by rw [← hl9]; refine Nat.le_trans (listF_len _ _) ?_; have h9 := H9.out.2.2.2.2.1.len; rw [hM] at h9; omega
                    have HLS9 := Lib.hid (show Calls Try.prog 25 #[.pointer (some ⟨b, 0, none⟩), .string ByteArray.empty] wm fun r w' => ∃ A c, r = .returned (.slice A l9.length c) ∧ Holds w (Star (Rs (.slice A l9.length c) l9) (Star (Dk b d9) (Star (Bm mt nt tf) (Star (Bm mw nw wf) S1)))) w' from by
                      have h9 := h_list hm9 hP3 H9.out.2.2.2.2.1 ByteArray.empty (by decide)
                      rw [hlc9] at h9
                      exact h9)
                    have H99 := Lib.hid (And.intro hM (And.intro hl9 hs9))
                    clear hm9 HST HDN2 hM hl9 hs9 hlc9
                    go_wp2_with fail
                    refine HLS9.out.mono ?_
                    rintro r wn ⟨An, cn, rfl, hn9⟩
                    have HN9 := Lib.hid hn9
                    clear hn9 HLS9
                    go_wp2
                    go_loopg [18] l9.length (fun g i wr => ∃ q : Nat, q ≤ l9.length ∧ g = l9.length - q ∧ i = .int .i64 q ∧ Holds w (Star (Rs (.slice An l9.length cn) l9) (Star (Dk b d9) (Star (Bm mt nt tf) (Star (Bm mw nw wf) S1)))) wr)
                    case atStart => exact ⟨0, Nat.zero_le _, rfl, rfl, HN9.out⟩
                    case round =>
                      obtain ⟨q, hq, rfl, rfl, hi⟩ := hrel
                      by_cases hlt : q < l9.length
                      · have h1 : (q : Int) < l9.length := by omega
                        have hj0 : (0 : Int) ≤ q := by omega
                        obtain ⟨ad, rfl, hB1, hcc⟩ := (rs_reads hi).2 q hlt
                        obtain ⟨x, hx⟩ : ∃ x, l9.getD q default = x := ⟨_, rfl⟩
                        have e0 : wr.cell? (ad.add q) = some (.string x) := by
                          have h8 := hcc 0 (by omega)
                          rw [hx, add_add, Nat.mul_one, Nat.add_zero] at h8
                          exact h8
                        have hmem : x ∈ l9 := by rw [← hx, List.getD_eq_getElem?_getD, List.getElem?_eq_getElem hlt]; simp
                        obtain ⟨y, hy⟩ : ∃ y, findF M x = some y := Option.isSome_iff_exists.1 (list_found (by rw [H99.out.2.1]; exact hmem))
                        have hsz := path_size (by rw [← H99.out.1]; exact H9.out.2.2.2.1) hy
                        have hmx : takenF M ≤ 500000000 := by rw [← H99.out.1]; exact H9.out.2.2.2.2.2
                        have hxm : x.size ≤ maxLen := by unfold maxLen; omega
                        have hym : y.size ≤ maxLen := by unfold maxLen; omega
                        have hwy : wf y = true := H9.out.2.2.1.1 x y (by rw [H99.out.1]; exact hy)
                        have HR := Lib.hid (show Calls Try.prog 26 #[.pointer (some ⟨b, 0, none⟩), .string x] wr fun r w' => r = .returned (.tuple #[.string y, .int .i64 0]) ∧ Holds w (Star (Dk b d9) (Star (Rs (.slice (some ad) l9.length cn) l9) (Star (Bm mt nt tf) (Star (Bm mw nw wf) S1)))) w' from by
                          have h9 := h_read (h_swap hi) ((rs_part _ _).star ((bm_part _ _ _).star ((bm_part _ _ _).star hPS))) x hxm
                          rw [H9.out.1, H99.out.2.2, hy] at h9
                          exact h9)
                        clear hi hcc hmem hsz hmx hx hy
                        go_wp2_with fail
                        refine HR.out.mono ?_
                        rintro r wo ⟨rfl, ho⟩
                        have hlk := bm_look (show Holds w (Star (Bm mw nw wf) (Star (Dk b d9) (Star (Rs (.slice (some ad) l9.length cn) l9) (Star (Bm mt nt tf) S1)))) wo from ((ho.imp (imp_tail (imp_tail imp_swap))).imp (imp_tail imp_swap)).imp imp_swap) ((dk_part b d9).star ((rs_part _ _).star ((bm_part _ _ _).star hPS))) y hym
                        rw [hwy] at hlk
                        have HO := Lib.hid (h_swap ho)
                        clear ho HR
                        go_wp2
                        go_roundg (l9.length - (q + 1))
                        case rel => exact ⟨q + 1, by omega, rfl, by go_num, HO.out⟩
                        case measure => omega
                      · have h1 : ¬ (q : Int) < l9.length := by omega
                        have hi2 : Holds w (Star (Dk b d9) (Star (Bm mt nt tf) (Star (Bm mw nw wf) S1))) wr := hi.tail
                        have hi3 : Holds w (Star (Sm mo nl f1) (Star (Dk b d9) (Star (Bm mt nt tf) (Star (Bm mw nw wf) Emp)))) wr := by
                          rw [HS1.out, ← HNL.out] at hi2
                          exact ((hi2.imp (imp_tail (imp_tail imp_swap))).imp (imp_tail imp_swap)).imp imp_swap
                        obtain ⟨_, ⟨_, D, hown, hD⟩, _, _⟩ := hi3.head ((dk_part b d9).star ((bm_part _ _ _).star ((bm_part _ _ _).star emp_part)))
                        have HI2 := Lib.hid hi2
                        have HOD := Lib.hid (And.intro hown hD)
                        clear hi hi2 hi3 hown hD
                        go_wp2_with (at_range; refine wpList_range_own _ rfl _ 58 rfl 9 9 klaw Try.underlying58 (plainElem Try.prog 9) mo nl D rfl HOD.out.1 ?_; intro w8 hr8 hg8 hs8)
                        have hb8 : Below wr.heap.size wr w8 := ⟨hg8.os, hg8.tape, hg8.output, hg8.size, fun k hk => hg8.block k hk (by simp)⟩
                        obtain ⟨RR, hRR⟩ : ∃ RR, RR = wr.heap.size := ⟨_, rfl⟩
                        have HI8 := Lib.hid (show Holds w (Star (Ig RR) (Star (Dk b d9) (Star (Bm mt nt tf) (Star (Bm mw nw wf) S1)))) w8 from by rw [hRR]; exact HI2.out.add ((dk_part b d9).star hP3) hb8 (T := Ig wr.heap.size) (A := [wr.heap.size]) ⟨rfl, by omega⟩ (fun k hk => by simp at hk; omega))
                        rw [← hRR] at hr8 ⊢
                        have HR8 := Lib.hid hr8
                        clear hb8 hr8 hg8 hs8 hRR HI2
                        go_loopw [21] (fun _ wr => ∃ (left : Lit → Bool) (cnt : Nat), wr.ranges (H := Unit) Try.prog 9 (plainElem Try.prog 9) mo RR nl D left cnt ∧ Holds w (Star (Ig RR) (Star (Dk b d9) (Star (Bm mt nt tf) (Star (Bm mw nw wf) S1)))) wr) (fun _ wr => wr.rangeLeft mo RR)
                        case atStart => exact ⟨_, _, HR8.out, HI8.out⟩
                        case round =>
                          obtain ⟨left, cnt, hrg, hig⟩ := hrel
                          have HG := Lib.hid (And.intro hrg hig)
                          clear hrg hig
                          go_wp2_with (at_next; refine wpList_next_str _ rfl _ rfl mo RR nl D left cnt rfl HG.out.1 ?_ ?_)
                          · have HWA := Lib.hid (show Calls Try.prog 22 #[.pointer (some ⟨b, 0, none⟩)] wr fun r w' => r = .returned (.int .i64 0) ∧ w' = wr from by have h9 := h_waiting (HG.out.2.tail) hP3; rw [H9.out.2.1] at h9; exact h9)
                            have HBF := Lib.hid (HB0.out.trans (HG.out.2.top.mono HB0.out.size))
                            go_wp2_with fail
                            refine HWA.out.mono ?_
                            rintro r wr ⟨rfl, rfl⟩
                            go_wp2
                            go_ret
                            exact ⟨rfl, HBF.out⟩
                          · intro p t w1 left' cnt1 hpl hhas hrg1 hlt1 hg1 hen
                            have hif : (f1 p).isSome = true := by rw [← (HOD.out.2 p).1]; exact hhas
                            obtain ⟨u, hu⟩ : ∃ u, f1 p = some u := Option.isSome_iff_exists.1 hif
                            have huL := HF1.out p u hu
                            have hig1 := ig_turn HG.out.2 ((dk_part b d9).star hP3) hg1
                            have hig2 : Holds w (Star (Dk b d9) (Star (Ig RR) (Star (Bm mt nt tf) (Star (Bm mw nw wf) S1)))) w1 := h_swap hig1
                            have hPI : Part (Star (Ig RR) (Star (Bm mt nt tf) (Star (Bm mw nw wf) S1))) := (ig_part _).star hP3
                            have hRead : ∃ X C, (tf p = false → X = u ∧ C = 0) ∧ Calls Try.prog 26 #[.pointer (some ⟨b, 0, none⟩), .string p] w1 fun r w' => r = .returned (.tuple #[.string X, .int .i64 C]) ∧ Below w1.heap.size w1 w' ∧ Holds w (Star (Dk b d9) (Star (Ig RR) (Star (Bm mt nt tf) (Star (Bm mw nw wf) S1)))) w' := by
                              obtain ⟨FA, hFA, _, _⟩ := hig2.head hPI
                              refine ⟨(if d9.down then ByteArray.empty else texOf (findF (seenF d9.lies d9.rows) p)), (if d9.down then 8 else if (findF (seenF d9.lies d9.rows) p).isSome then 0 else 5), fun htf => ?_, (read_d w1 b d9 FA hFA p hpl).mono ?_⟩
                              · have h7 : findF (seenF d9.lies d9.rows) p = some u := by rw [H99.out.2.2, ← H99.out.1, H9.out.2.2.1.2 p htf]; exact huL
                                rw [H9.out.1, h7]
                                exact ⟨rfl, rfl⟩
                              · rintro r w' ⟨rfl, h9⟩
                                exact ⟨rfl, h9, hig2.below ((dk_part b d9).star hPI) h9⟩
                            obtain ⟨X, C, hXC, hcall⟩ := hRead
                            have HCL := Lib.hid hcall
                            have HXC := Lib.hid hXC
                            have HLF := Lib.hid (And.intro hrg1 (And.intro hlt1 HG.out.1.left_eq))
                            have HU := Lib.hid hu
                            have huz : u.size ≤ maxLen := by
                              have h9 := (path_size (by rw [← HDC.out.1.1]; exact HDC.out.2.rise) huL).2
                              have h8 := HDC.out.2.tak
                              rw [HDC.out.1.1] at h8
                              unfold maxLen; omega
                            clear hhas hif hu huL hig1 hig2 hPI hcall hXC hrg1 hlt1 hg1 HG
                            go_wp2_with fail
                            refine HCL.out.mono ?_
                            rintro r wq ⟨rfl, hbq, hq9⟩
                            have hrq := HLF.out.1.kept (row := none) ⟨hbq.os, hbq.tape, hbq.output, hbq.size, fun k hk _ => hbq.block k hk⟩ (by simp) (by simp)
                            have hlt9 := bm_look (show Holds w (Star (Bm mt nt tf) (Star (Dk b d9) (Star (Ig RR) (Star (Bm mw nw wf) S1)))) wq from (hq9.imp (imp_tail imp_swap)).imp imp_swap) ((dk_part b d9).star ((ig_part _).star ((bm_part _ _ _).star hPS))) p hpl
                            have hlo := sm_look (show Holds w (Star (Sm mo nl f1) (Star (Dk b d9) (Star (Ig RR) (Star (Bm mt nt tf) (Star (Bm mw nw wf) Emp))))) wq from by
                              have h9 := hq9
                              rw [HS1.out, ← HNL.out] at h9
                              exact (((h9.imp (imp_tail (imp_tail (imp_tail imp_swap)))).imp (imp_tail (imp_tail imp_swap))).imp (imp_tail imp_swap)).imp imp_swap) ((dk_part b d9).star ((ig_part _).star ((bm_part _ _ _).star ((bm_part _ _ _).star emp_part)))) p u hpl HU.out
                            have HQ := Lib.hid (And.intro hrq (h_swap hq9))
                            have hfin : wq.rangeLeft mo RR < wr.rangeLeft mo RR := by rw [hrq.left_eq, HLF.out.2.2]; exact HLF.out.2.1
                            have HFN := Lib.hid hfin
                            clear hbq hq9 hrq HCL hfin hen
                            cases htf : tf p
                            · obtain ⟨rfl, rfl⟩ := HXC.out htf
                              rw [htf] at hlt9
                              have hsl := str_self X
                              go_wp2
                              go_roundw
                              case rel => exact ⟨_, _, HQ.out.1, HQ.out.2⟩
                              case measure => exact HFN.out
                            · rw [htf] at hlt9
                              go_wp2
                              go_roundw
                              case rel => exact ⟨_, _, HQ.out.1, HQ.out.2⟩
                              case measure => exact HFN.out
                  · skip
                    have HDN2 := Lib.hid (show Calls Try.prog 21 #[.pointer (some ⟨b, 0, none⟩)] wr fun r w' => r = .returned (.bool true) ∧ w' = wr from by have h9 := h_down HH.out hP3; rw [hdd] at h9; exact h9)
                    have hfitd : Fit d := HKP.out.fit (by omega) (by omega)
                    obtain ⟨d9, hd9⟩ : ∃ d9, d9 = ({ d with down := false } : Dsk) := ⟨_, rfl⟩
                    have HST := Lib.hid (show Calls Try.prog 28 #[.pointer (some ⟨b, 0, none⟩)] wr fun r w' => r = .returned (.tuple #[]) ∧ Holds w (Star (Dk b d9) (Star (Bm mt nt tf) (Star (Bm mw nw wf) S1))) w' from by have h9 := h_start HH.out hP3; rw [← hd9] at h9; exact h9)
                    have H9 := Lib.hid (show d9.down = false ∧ d9.rows = [] ∧ Hk.Good L wf tf d9.lies ∧ Rise d9.lies ∧ Fit d9 ∧ takenF d9.lies ≤ 500000000 from by rw [hd9]; exact ⟨rfl, HKP.out.down hdd, HKP.out.good, HKP.out.rise, ⟨hfitd.len, hfitd.tak, hfitd.l0, hfitd.l1⟩, (show takenF d.lies ≤ 500000000 from by have := hfitd.tak; omega)⟩)
                    clear hd9 hfitd
                    go_wp2_with (go_at_call 21; refine HDN2.out.mono ?_; rintro r wr ⟨rfl, rfl⟩)
                    refine HST.out.mono ?_
                    rintro r wm ⟨rfl, hm9⟩
                    obtain ⟨M, hM⟩ : ∃ M, d9.lies = M := ⟨_, rfl⟩
                    obtain ⟨l9, hl9⟩ : ∃ l9, listF M ByteArray.empty = l9 := ⟨_, rfl⟩
                    have hs9 : seenF d9.lies d9.rows = M := by rw [H9.out.2.1, hM]; rfl
                    have hlc9 : listD d9 ByteArray.empty = l9 := by unfold listD; rw [if_neg (by rw [H9.out.1]; decide), hs9]; exact hl9
                    have hll9' : l9.length ≤ 4000 := by rw [← hl9]; refine Nat.le_trans (listF_len _ _) ?_; have h9 := H9.out.2.2.2.2.1.len; rw [hM] at h9; omega
                    have HLS9 := Lib.hid (show Calls Try.prog 25 #[.pointer (some ⟨b, 0, none⟩), .string ByteArray.empty] wm fun r w' => ∃ A c, r = .returned (.slice A l9.length c) ∧ Holds w (Star (Rs (.slice A l9.length c) l9) (Star (Dk b d9) (Star (Bm mt nt tf) (Star (Bm mw nw wf) S1)))) w' from by
                      have h9 := h_list hm9 hP3 H9.out.2.2.2.2.1 ByteArray.empty (by decide)
                      rw [hlc9] at h9
                      exact h9)
                    have H99 := Lib.hid (And.intro hM (And.intro hl9 hs9))
                    clear hm9 HST HDN2 hM hl9 hs9 hlc9
                    go_wp2_with fail
                    refine HLS9.out.mono ?_
                    rintro r wn ⟨An, cn, rfl, hn9⟩
                    have HN9 := Lib.hid hn9
                    clear hn9 HLS9
                    go_wp2
                    go_loopg [18] l9.length (fun g i wr => ∃ q : Nat, q ≤ l9.length ∧ g = l9.length - q ∧ i = .int .i64 q ∧ Holds w (Star (Rs (.slice An l9.length cn) l9) (Star (Dk b d9) (Star (Bm mt nt tf) (Star (Bm mw nw wf) S1)))) wr)
                    case atStart => exact ⟨0, Nat.zero_le _, rfl, rfl, HN9.out⟩
                    case round =>
                      obtain ⟨q, hq, rfl, rfl, hi⟩ := hrel
                      by_cases hlt : q < l9.length
                      · have h1 : (q : Int) < l9.length := by omega
                        have hj0 : (0 : Int) ≤ q := by omega
                        obtain ⟨ad, rfl, hB1, hcc⟩ := (rs_reads hi).2 q hlt
                        obtain ⟨x, hx⟩ : ∃ x, l9.getD q default = x := ⟨_, rfl⟩
                        have e0 : wr.cell? (ad.add q) = some (.string x) := by
                          have h8 := hcc 0 (by omega)
                          rw [hx, add_add, Nat.mul_one, Nat.add_zero] at h8
                          exact h8
                        have hmem : x ∈ l9 := by rw [← hx, List.getD_eq_getElem?_getD, List.getElem?_eq_getElem hlt]; simp
                        obtain ⟨y, hy⟩ : ∃ y, findF M x = some y := Option.isSome_iff_exists.1 (list_found (by rw [H99.out.2.1]; exact hmem))
                        have hsz := path_size (by rw [← H99.out.1]; exact H9.out.2.2.2.1) hy
                        have hmx : takenF M ≤ 500000000 := by rw [← H99.out.1]; exact H9.out.2.2.2.2.2
                        have hxm : x.size ≤ maxLen := by unfold maxLen; omega
                        have hym : y.size ≤ maxLen := by unfold maxLen; omega
                        have hwy : wf y = true := H9.out.2.2.1.1 x y (by rw [H99.out.1]; exact hy)
                        have HR := Lib.hid (show Calls Try.prog 26 #[.pointer (some ⟨b, 0, none⟩), .string x] wr fun r w' => r = .returned (.tuple #[.string y, .int .i64 0]) ∧ Holds w (Star (Dk b d9) (Star (Rs (.slice (some ad) l9.length cn) l9) (Star (Bm mt nt tf) (Star (Bm mw nw wf) S1)))) w' from by
                          have h9 := h_read (h_swap hi) ((rs_part _ _).star ((bm_part _ _ _).star ((bm_part _ _ _).star hPS))) x hxm
                          rw [H9.out.1, H99.out.2.2, hy] at h9
                          exact h9)
                        clear hi hcc hmem hsz hmx hx hy
                        go_wp2_with fail
                        refine HR.out.mono ?_
                        rintro r wo ⟨rfl, ho⟩
                        have hlk := bm_look (show Holds w (Star (Bm mw nw wf) (Star (Dk b d9) (Star (Rs (.slice (some ad) l9.length cn) l9) (Star (Bm mt nt tf) S1)))) wo from ((ho.imp (imp_tail (imp_tail imp_swap))).imp (imp_tail imp_swap)).imp imp_swap) ((dk_part b d9).star ((rs_part _ _).star ((bm_part _ _ _).star hPS))) y hym
                        rw [hwy] at hlk
                        have HO := Lib.hid (h_swap ho)
                        clear ho HR
                        go_wp2
                        go_roundg (l9.length - (q + 1))
                        case rel => exact ⟨q + 1, by omega, rfl, by go_num, HO.out⟩
                        case measure => omega
                      · have h1 : ¬ (q : Int) < l9.length := by omega
                        have hi2 : Holds w (Star (Dk b d9) (Star (Bm mt nt tf) (Star (Bm mw nw wf) S1))) wr := hi.tail
                        have hi3 : Holds w (Star (Sm mo nl f1) (Star (Dk b d9) (Star (Bm mt nt tf) (Star (Bm mw nw wf) Emp)))) wr := by
                          rw [HS1.out, ← HNL.out] at hi2
                          exact ((hi2.imp (imp_tail (imp_tail imp_swap))).imp (imp_tail imp_swap)).imp imp_swap
                        obtain ⟨_, ⟨_, D, hown, hD⟩, _, _⟩ := hi3.head ((dk_part b d9).star ((bm_part _ _ _).star ((bm_part _ _ _).star emp_part)))
                        have HI2 := Lib.hid hi2
                        have HOD := Lib.hid (And.intro hown hD)
                        clear hi hi2 hi3 hown hD
                        go_wp2_with (at_range; refine wpList_range_own _ rfl _ 58 rfl 9 9 klaw Try.underlying58 (plainElem Try.prog 9) mo nl D rfl HOD.out.1 ?_; intro w8 hr8 hg8 hs8)
                        have hb8 : Below wr.heap.size wr w8 := ⟨hg8.os, hg8.tape, hg8.output, hg8.size, fun k hk => hg8.block k hk (by simp)⟩
                        obtain ⟨RR, hRR⟩ : ∃ RR, RR = wr.heap.size := ⟨_, rfl⟩
                        have HI8 := Lib.hid (show Holds w (Star (Ig RR) (Star (Dk b d9) (Star (Bm mt nt tf) (Star (Bm mw nw wf) S1)))) w8 from by rw [hRR]; exact HI2.out.add ((dk_part b d9).star hP3) hb8 (T := Ig wr.heap.size) (A := [wr.heap.size]) ⟨rfl, by omega⟩ (fun k hk => by simp at hk; omega))
                        rw [← hRR] at hr8 ⊢
                        have HR8 := Lib.hid hr8
                        clear hb8 hr8 hg8 hs8 hRR HI2
                        go_loopw [21] (fun _ wr => ∃ (left : Lit → Bool) (cnt : Nat), wr.ranges (H := Unit) Try.prog 9 (plainElem Try.prog 9) mo RR nl D left cnt ∧ Holds w (Star (Ig RR) (Star (Dk b d9) (Star (Bm mt nt tf) (Star (Bm mw nw wf) S1)))) wr) (fun _ wr => wr.rangeLeft mo RR)
                        case atStart => exact ⟨_, _, HR8.out, HI8.out⟩
                        case round =>
                          obtain ⟨left, cnt, hrg, hig⟩ := hrel
                          have HG := Lib.hid (And.intro hrg hig)
                          clear hrg hig
                          go_wp2_with (at_next; refine wpList_next_str _ rfl _ rfl mo RR nl D left cnt rfl HG.out.1 ?_ ?_)
                          · have HWA := Lib.hid (show Calls Try.prog 22 #[.pointer (some ⟨b, 0, none⟩)] wr fun r w' => r = .returned (.int .i64 0) ∧ w' = wr from by have h9 := h_waiting (HG.out.2.tail) hP3; rw [H9.out.2.1] at h9; exact h9)
                            have HBF := Lib.hid (HB0.out.trans (HG.out.2.top.mono HB0.out.size))
                            go_wp2_with fail
                            refine HWA.out.mono ?_
                            rintro r wr ⟨rfl, rfl⟩
                            go_wp2
                            go_ret
                            exact ⟨rfl, HBF.out⟩
                          · intro p t w1 left' cnt1 hpl hhas hrg1 hlt1 hg1 hen
                            have hif : (f1 p).isSome = true := by rw [← (HOD.out.2 p).1]; exact hhas
                            obtain ⟨u, hu⟩ : ∃ u, f1 p = some u := Option.isSome_iff_exists.1 hif
                            have huL := HF1.out p u hu
                            have hig1 := ig_turn HG.out.2 ((dk_part b d9).star hP3) hg1
                            have hig2 : Holds w (Star (Dk b d9) (Star (Ig RR) (Star (Bm mt nt tf) (Star (Bm mw nw wf) S1)))) w1 := h_swap hig1
                            have hPI : Part (Star (Ig RR) (Star (Bm mt nt tf) (Star (Bm mw nw wf) S1))) := (ig_part _).star hP3
                            have hRead : ∃ X C, (tf p = false → X = u ∧ C = 0) ∧ Calls Try.prog 26 #[.pointer (some ⟨b, 0, none⟩), .string p] w1 fun r w' => r = .returned (.tuple #[.string X, .int .i64 C]) ∧ Below w1.heap.size w1 w' ∧ Holds w (Star (Dk b d9) (Star (Ig RR) (Star (Bm mt nt tf) (Star (Bm mw nw wf) S1)))) w' := by
                              obtain ⟨FA, hFA, _, _⟩ := hig2.head hPI
                              refine ⟨(if d9.down then ByteArray.empty else texOf (findF (seenF d9.lies d9.rows) p)), (if d9.down then 8 else if (findF (seenF d9.lies d9.rows) p).isSome then 0 else 5), fun htf => ?_, (read_d w1 b d9 FA hFA p hpl).mono ?_⟩
                              · have h7 : findF (seenF d9.lies d9.rows) p = some u := by rw [H99.out.2.2, ← H99.out.1, H9.out.2.2.1.2 p htf]; exact huL
                                rw [H9.out.1, h7]
                                exact ⟨rfl, rfl⟩
                              · rintro r w' ⟨rfl, h9⟩
                                exact ⟨rfl, h9, hig2.below ((dk_part b d9).star hPI) h9⟩
                            obtain ⟨X, C, hXC, hcall⟩ := hRead
                            have HCL := Lib.hid hcall
                            have HXC := Lib.hid hXC
                            have HLF := Lib.hid (And.intro hrg1 (And.intro hlt1 HG.out.1.left_eq))
                            have HU := Lib.hid hu
                            have huz : u.size ≤ maxLen := by
                              have h9 := (path_size (by rw [← HDC.out.1.1]; exact HDC.out.2.rise) huL).2
                              have h8 := HDC.out.2.tak
                              rw [HDC.out.1.1] at h8
                              unfold maxLen; omega
                            clear hhas hif hu huL hig1 hig2 hPI hcall hXC hrg1 hlt1 hg1 HG
                            go_wp2_with fail
                            refine HCL.out.mono ?_
                            rintro r wq ⟨rfl, hbq, hq9⟩
                            have hrq := HLF.out.1.kept (row := none) ⟨hbq.os, hbq.tape, hbq.output, hbq.size, fun k hk _ => hbq.block k hk⟩ (by simp) (by simp)
                            have hlt9 := bm_look (show Holds w (Star (Bm mt nt tf) (Star (Dk b d9) (Star (Ig RR) (Star (Bm mw nw wf) S1)))) wq from (hq9.imp (imp_tail imp_swap)).imp imp_swap) ((dk_part b d9).star ((ig_part _).star ((bm_part _ _ _).star hPS))) p hpl
                            have hlo := sm_look (show Holds w (Star (Sm mo nl f1) (Star (Dk b d9) (Star (Ig RR) (Star (Bm mt nt tf) (Star (Bm mw nw wf) Emp))))) wq from by
                              have h9 := hq9
                              rw [HS1.out, ← HNL.out] at h9
                              exact (((h9.imp (imp_tail (imp_tail (imp_tail imp_swap)))).imp (imp_tail (imp_tail imp_swap))).imp (imp_tail imp_swap)).imp imp_swap) ((dk_part b d9).star ((ig_part _).star ((bm_part _ _ _).star ((bm_part _ _ _).star emp_part)))) p u hpl HU.out
                            have HQ := Lib.hid (And.intro hrq (h_swap hq9))
                            have hfin : wq.rangeLeft mo RR < wr.rangeLeft mo RR := by rw [hrq.left_eq, HLF.out.2.2]; exact HLF.out.2.1
                            have HFN := Lib.hid hfin
                            clear hbq hq9 hrq HCL hfin hen
                            cases htf : tf p
                            · obtain ⟨rfl, rfl⟩ := HXC.out htf
                              rw [htf] at hlt9
                              have hsl := str_self X
                              go_wp2
                              go_roundw
                              case rel => exact ⟨_, _, HQ.out.1, HQ.out.2⟩
                              case measure => exact HFN.out
                            · rw [htf] at hlt9
                              go_wp2
                              go_roundw
                              case rel => exact ⟨_, _, HQ.out.1, HQ.out.2⟩
                              case measure => exact HFN.out
    · have hsd' : decide (sumF l' ≤ 300) = false := decide_eq_false hs'
      have HBF := Lib.hid (HB0.out.trans (HB3.out.mono HB0.out.size))
      simp only [hsd']
      go_wp2
      go_ret
      exact ⟨rfl, HBF.out⟩
  · have hsd : decide (sumF l ≤ 300) = false := decide_eq_false hs
    have HBF := Lib.hid (HB0.out.trans (HB2.out.mono HB0.out.size))
    simp only [hsd]
    go_wp2
    go_ret
    exact ⟨rfl, HBF.out⟩

theorem own : ownKnob Try.prog.godebug = none := by kernel_rfl

set_option maxRecDepth 100000 in
theorem lifted (os : Os) (started : os.Started) (H : Type) (enc : TypeId × Value → H) :
    ReturnsInHanded {} Try.checked os 4 .any (Rows.diskKeptSpec.pre6 enc Try.prog Try.f4 Rows.diskKeptRow.domain false) (Rows.diskKeptSpec.post enc Try.prog Try.f4 false true false false) := by
  refine returnsInHanded_of_change_sized (C := Try.checked) own started (by kernel_rfl) Try.func4
    (ChangeSpec.witness6 (enc := enc) (C := Try.checked) false ⟨#[], #[.slice none 0 0, .slice none 0 0, .agg #[.int .i64 0, .int .u64 0]], []⟩ 8 (by kernel_rfl) (by kernel_rfl) (by kernel_rfl) (by kernel_rfl)) ?_
  intro W base args ds gs before hval0 hW hcnd hsz _
  have hval : ∀ (j : Nat) t v, Try.f4.params[j]? = some t → args[j]? = some v → Value.okWide Try.prog W .any base t v := hval0
  have hW' := hW
  obtain ⟨p, q, hA0, hV, rfl, hfz, hnd⟩ := hW
  have hA : DataW.TrodAll enc Try.prog W 0 (fun _ => true) true Try.f4.params.toList args.toList ds p := hA0
  rw [Try.params4] at hA hval hsz
  obtain ⟨v0, vs0, d0, ds0, p0, q0, hargs, rfl, rfl, h0, r0⟩ := trodAll_cons hA
  obtain ⟨v1, vs1, d1, ds1, p1, q1, rfl, rfl, rfl, h1, r1⟩ := trodAll_cons r0
  obtain ⟨v2, vs2, d2, ds2, p2, q2, rfl, rfl, rfl, h2, r2⟩ := trodAll_cons r1
  obtain ⟨rfl, rfl, rfl⟩ := trodAll_nil r2
  obtain rfl : args = #[v0, v1, v2] := by cases args; simp_all
  obtain ⟨rfl, rfl⟩ := trodVars_none hV
  have hz0 : ∀ n ∈ d0.weights Try.prog 22, n ≤ reachBytes := fun n hn => of_decide_eq_true (List.all_eq_true.1 hsz n (DataW.weights_mem_each (j := 0) rfl rfl n hn))
  have hz1 : ∀ n ∈ d1.weights Try.prog 22, n ≤ reachBytes := fun n hn => of_decide_eq_true (List.all_eq_true.1 hsz n (DataW.weights_mem_each (j := 1) rfl rfl n hn))
  obtain ⟨A0, l0, c0, rfl, hr0, hw0⟩ := Hk.open_acts (hval 0 22 v0 rfl rfl) h0 hz0
  obtain ⟨A1, l1, c1, rfl, hr1, hw1⟩ := Hk.open_acts (hval 1 22 v1 rfl rfl) h1 hz1
  obtain ⟨a2, b2, rfl, w2, x2⟩ := Hk.open_cut (hval 2 33 v2 rfl rfl) h2
  clear hA0 hval0
  refine (walk A0 c0 l0 A1 c1 l1 a2 b2 W hr0 hw0 hr1 hw1 w2 x2).mono fun e W' ⟨he, hg⟩ => ?_
  subst he
  exact ⟨_, rfl, law_post Try.laid (by kernel_rfl) (by kernel_rfl) Try.underlying4 rfl rfl hW' hg⟩

theorem over : Rows.diskKeptRow.holds Try.pinned (OpenSpec.ofChange Rows.diskKeptSpec) :=
  OpenClaim.holds_of_wide 4 Try.f4 rfl rfl rfl rfl rfl rfl rfl ⟨rfl, rfl, rfl, rfl, rfl⟩ rfl rfl rfl rfl rfl (by kernel_rfl) Try.func4 (by kernel_rfl)
    (of_decide_eq_true (by kernel_rfl)) (by unfold Func.isWrapper; first | (rw [if_pos (by decide +kernel)]; kernel_rfl) | (rw [if_neg (by decide +kernel)]; exact ⟨rfl, rfl⟩))
    (fun os started H enc _ => lifted os started H enc)
end Go.Proofs.Ytdgfbpkpfmdjjaa.diskKept

namespace Go.Proofs.Ytdgfbpkpfmdjjaa
theorem diskKept_holds : Rows.DiskKeptSaid := diskKept.over
end Go.Proofs.Ytdgfbpkpfmdjjaa
