/-
  The document's List and Texts (layer 7).
-/
import Derived.Test.YtdgfbpkpfmdjjaaVf
namespace Go.Proofs.Ytdgfbpkpfmdjjaa.Hk
open Go.RowKit Hr Hw
set_option linter.unusedVariables false

/-- a slice of strings -/
def scells (s : ByteArray) : List Value := [.string s]
theorem scells_len (s : ByteArray) : (scells s).length = 1 := rfl
theorem scells_one (s : ByteArray) (u : Value) (h : u ∈ scells s) : u.oneCell' = true := by
  simp [scells] at h
  subst h
  rfl
abbrev Sts (w : World) (B : Nat) (A : Option Addr) (l : List ByteArray) : Prop := Recs 1 scells w B A l
theorem st_elem : ∃ i, ElemOf 40 9 1 i (.string ByteArray.empty) 16 := mkElem Try.underlying40 (by kernel_rfl) rfl (by omega) (by omega)
def beginsB (p pre : ByteArray) : Bool := decide (pre.size ≤ p.size) && decide (p.extract 0 pre.size = pre)
def listF (l : List Fl) (pre : ByteArray) : List ByteArray := (l.filter fun q => beginsB q.1 pre).map (·.1)
theorem listF_succ {l : List Fl} {pre : ByteArray} {i : Nat} (hi : i < l.length) : listF (l.take (i + 1)) pre = listF (l.take i) pre ++ (if beginsB (l.getD i default).1 pre = true then [(l.getD i default).1] else []) := by
  rw [List.take_add_one, List.getElem?_eq_getElem hi]
  simp only [listF, Option.toList_some, List.filter_append, List.filter_cons, List.filter_nil, List.map_append, List.getD, List.getElem?_eq_getElem hi, Option.getD_some]
  by_cases h : beginsB l[i].1 pre = true
  · simp [h]
  · simp [h]
theorem listF_len (l : List Fl) (pre : ByteArray) : (listF l pre).length ≤ l.length := by
  rw [listF, List.length_map]
  exact List.length_filter_le _ _
theorem one_str (w : World) (s : ByteArray) : Sts (w.alloc (.cells #[.string s] 9)) (w.alloc (.cells #[.string s] 9)).heap.size (some ⟨w.heap.size, 0, none⟩) [s] := fun i hi => by
  have hi0 : i = 0 := by simpa using hi
  subst hi0
  refine ⟨_, rfl, by simp, fun j' hj' => ?_⟩
  have hblk := heap_alloc_new w (.cells #[.string s] 9)
  rw [add_add, Addr.add_lit]
  simp only [World.cell?, hblk]
  have h2 : j' = 0 := by omega
  subst h2
  rfl
theorem slice_to (s : ByteArray) (n : Nat) (h : n ≤ s.size) (W : World) : (Instr.slice 9 (.string s) none (some (.int .i64 (n : Int))) none).run Try.prog W = .ok (.string (s.extract 0 n)) W := by
  have h := run_slice_string_h (P := Try.prog) (w := W) (t := 9) (s := s) Try.underlying9 .i64 (n : Int) (by omega) (by omega)
  rw [h, Int.toNat_natCast]
theorem begins_yes {p pre : ByteArray} (h1 : pre.size ≤ p.size) (h2 : p.extract 0 pre.size = pre) : beginsB p pre = true := by unfold beginsB; rw [decide_eq_true h1, decide_eq_true h2]; rfl
theorem begins_no {p pre : ByteArray} (h2 : ¬ p.extract 0 pre.size = pre) : ¬ beginsB p pre = true := by unfold beginsB; rw [decide_eq_false h2, Bool.and_false]; decide
theorem begins_short {p pre : ByteArray} (h1 : ¬ pre.size ≤ p.size) : ¬ beginsB p pre = true := by unfold beginsB; rw [decide_eq_false h1, Bool.false_and]; decide

set_option maxHeartbeats 1000000 in
set_option maxRecDepth 100000 in
theorem list_any (w : World) (B : Nat) (A : Option Addr) (c : Nat) (l : List Fl) (pre : ByteArray) (h : Fls w B A l) (hB : B ≤ w.heap.size) (hl : l.length ≤ 10000) :
    Calls Try.prog 18 #[.slice A l.length c, .string pre] w fun e w' => (∃ A2 c2, e = .returned (.slice A2 (listF l pre).length c2) ∧ Sts w' w'.heap.size A2 (listF l pre)) ∧ Below w.heap.size w w' := by
  obtain ⟨i0, E⟩ := st_elem
  have HE := Lib.hid E
  clear E
  have HP := Lib.hid h
  clear h
  go_enter Try.func18, Try.ntmps18
  go_wp2
  go_loopg [5, 6] l.length (fun g v i wr => ∃ (j : Nat) (A2 : Option Addr) (c2 : Nat), j ≤ l.length ∧ g = l.length - j ∧ i = .int .i64 j ∧ v = .slice A2 (listF (l.take j) pre).length c2 ∧ Below w.heap.size w wr ∧ wr.ownsRow w.heap.size 9 1 v (listF (l.take j) pre).length ((listF (l.take j) pre).flatMap scells))
  case atStart => exact ⟨0, none, 0, Nat.zero_le _, rfl, rfl, rfl, Below.refl _ _, ⟨rfl, .inl ⟨rfl, rfl⟩⟩⟩
  case round =>
    obtain ⟨j, A2, c2, hj, rfl, rfl, rfl, hbl, hown⟩ := hrel
    by_cases hlt : j < l.length
    · have h1 : (j : Int) < l.length := by omega
      have h0 : (0 : Int) ≤ j := by omega
      obtain ⟨ad, rfl, hB1, hc⟩ := (HP.out.below (hbl.mono hB)) j hlt
      have c0 : wr.cell? (ad.add (j * 2)) = some (.string (l.getD j default).1) := hc 0 (by omega)
      have hsu := listF_succ (pre := pre) hlt
      have hle := Nat.le_trans (listF_len (l.take j) pre) (by rw [List.length_take]; omega : (l.take j).length ≤ l.length)
      have hblw := hbl.size
      by_cases hsz : pre.size ≤ (l.getD j default).1.size
      · have hsz' : (pre.size : Int) ≤ (l.getD j default).1.size := by omega
        have hto := slice_to (l.getD j default).1 pre.size hsz
        by_cases he : (l.getD j default).1.extract 0 pre.size = pre
        · have hbe := begins_yes hsz he
          rw [if_pos hbe] at hsu
          have hq := str_beq he
          rw [he] at hto
          have hq' := str_beq (rfl : pre = pre)
          obtain ⟨v', w', hrun, hown', hgr, _⟩ := app_recs HE.out scells_len scells_one (wr.alloc (.cells #[.string (l.getD j default).1] 9)) w.heap.size _ (listF (l.take j) pre) [(l.getD j default).1] (some ⟨wr.heap.size, 0, none⟩) 1 _ 40 (hown.alloc _) (one_str wr (l.getD j default).1) (by omega) (by simp) (by simp; omega)
          have hbl2 : Below w.heap.size w w' := (hbl.alloc hblw _).grown hgr (by simp; omega) (fun i hi => (hown.lt i hi).1)
          rw [← hsu] at hown'
          obtain ⟨A3, c3, rfl, _, _⟩ := recs_own scells_len (by omega) hown'
          have HO := Lib.hid (And.intro hown' hbl2)
          have HRUN := Lib.hid hrun
          generalize (l.getD j default).1 = x at *
          clear hsu hown hbl hc he hown' hgr hbl2 hrun hbe hq
          go_wp2_with (at_builtin; refine Hr.wpList_append_run rfl (.tmp 32) (.tmp 34) 40 40 rfl _ _ _ w' rfl rfl HRUN.out ?_)
          go_roundg (l.length - (j + 1))
          case rel => exact ⟨j + 1, A3, c3, by omega, rfl, by go_num, rfl, HO.out.2, HO.out.1⟩
          case measure => omega
        · have hbe := begins_no he
          rw [if_neg hbe, List.append_nil] at hsu
          have hq := str_bne he
          have HS := Lib.hid hsu
          have HO := Lib.hid hown
          have HB := Lib.hid hbl
          generalize (l.getD j default).1 = x at *
          clear hsu hown hbl hc hbe
          go_wp2
          go_roundg (l.length - (j + 1))
          case rel => exact ⟨j + 1, A2, c2, by omega, rfl, by go_num, by rw [HS.out], HB.out, by rw [HS.out]; exact HO.out⟩
          case measure => omega
      · have hsz' : ¬ (pre.size : Int) ≤ (l.getD j default).1.size := by omega
        have hbe := begins_short hsz
        rw [if_neg hbe, List.append_nil] at hsu
        have HS := Lib.hid hsu
        have HO := Lib.hid hown
        have HB := Lib.hid hbl
        generalize (l.getD j default).1 = x at *
        clear hsu hown hbl hc hbe
        go_wp2
        go_roundg (l.length - (j + 1))
        case rel => exact ⟨j + 1, A2, c2, by omega, rfl, by go_num, by rw [HS.out], HB.out, by rw [HS.out]; exact HO.out⟩
        case measure => omega
    · obtain rfl : j = l.length := by omega
      rw [List.take_length] at hown
      obtain ⟨A3, c3, e3, _, hr⟩ := recs_own scells_len (by omega) hown
      injection e3 with e3 _ e4
      subst e3 e4
      have HO := Lib.hid (And.intro hr hbl)
      rw [List.take_length]
      clear hown hbl hr
      go_wp2
      go_ret
      first | exact ⟨⟨A2, c2, rfl, HO.out.1⟩, HO.out.2⟩ | exact ⟨⟨A2, ⟨c2, rfl⟩, HO.out.1⟩, HO.out.2⟩

/-! ### Texts -/
theorem take_sameS {l m : List ByteArray} {k : Nat} (hk : k < l.length) (hm : k < m.length) (h : l.take k = m.take k) (he : l.getD k default = m.getD k default) : l.take (k + 1) = m.take (k + 1) := by
  rw [List.take_add_one, List.take_add_one, h, List.getElem?_eq_getElem hk, List.getElem?_eq_getElem hm]
  simp only [List.getD, List.getElem?_eq_getElem hk, List.getElem?_eq_getElem hm, Option.getD_some] at he
  rw [he]
set_option maxHeartbeats 1000000 in
set_option maxRecDepth 100000 in
theorem texts_any (w : World) (B : Nat) (A A' : Option Addr) (c c' : Nat) (l m : List ByteArray) (h : Sts w B A l) (h' : Sts w B A' m) (hB : B ≤ w.heap.size) (hl : l.length ≤ 100000) (hm : m.length ≤ 100000) :
    Calls Try.prog 20 #[.slice A l.length c, .slice A' m.length c'] w fun e w' => e = .returned (.bool (decide (l = m))) ∧ Below w.heap.size w w' := by
  have HL := Lib.hid h
  have HM := Lib.hid h'
  clear h h'
  by_cases hlen : l.length = m.length
  · have HE := Lib.hid hlen
    have hneq : ((l.length : Int) != (m.length : Int)) = false := by rw [hlen]; simp
    go_enter Try.func20, Try.ntmps20
    go_wp2
    go_loopg [5] l.length (fun g i wr => ∃ k : Nat, k ≤ l.length ∧ g = l.length - k ∧ i = .int .i64 k ∧ Below w.heap.size w wr ∧ l.take k = m.take k)
    case atStart => exact ⟨0, Nat.zero_le _, rfl, rfl, Below.refl _ _, by simp⟩
    case round =>
      obtain ⟨k, hk, rfl, rfl, hbl, hsm⟩ := hrel
      by_cases hlt : k < l.length
      · have hlm : k < m.length := by have := HE.out; omega
        have h1 : (k : Int) < l.length := by omega
        have h2 : (k : Int) < m.length := by omega
        have h0 : (0 : Int) ≤ k := by omega
        obtain ⟨ad, rfl, hB1, hc1⟩ := (HL.out.below (hbl.mono hB)) k hlt
        obtain ⟨ad', rfl, hB2, hc2⟩ := (HM.out.below (hbl.mono hB)) k hlm
        have d1 : wr.cell? (ad.add k) = some (.string (l.getD k default)) := by have h9 := hc1 0 (by omega); rw [Nat.mul_one] at h9; exact h9
        have d2 : wr.cell? (ad'.add k) = some (.string (m.getD k default)) := by have h9 := hc2 0 (by omega); rw [Nat.mul_one] at h9; exact h9
        by_cases he : l.getD k default = m.getD k default
        · have HS := Lib.hid (take_sameS hlt hlm hsm he)
          have HB := Lib.hid hbl
          rw [← he] at d2
          generalize l.getD k default = x at *
          clear hsm he hbl hneq hlen hc1 hc2
          go_wp2_with fail
          refine wp_region_still_lit (by kernel_rfl) (by kernel_rfl) ?_
          change wpStill _ _ (World.drew _) (fun a' => Exit.then _ _ _ a' (World.drew _)) _ _
          iterate 9 ((with_reducible refine wpStill_step ?_); intro K hK; go_simp; refine hK _ ?_; clear hK K)
          refine wpStill_nil ?_
          go_wp2
          go_roundg (l.length - (k + 1))
          case rel => exact ⟨k + 1, by omega, rfl, by go_num, HB.out.drew, HS.out⟩
          case measure => omega
        · have hne : ¬ l = m := fun e => he (by rw [e])
          have HN := Lib.hid (decide_eq_false hne)
          have HB := Lib.hid hbl
          have hq := str_bne he
          generalize l.getD k default = x at *
          generalize m.getD k default = y at *
          clear hsm hbl hneq hlen hne hc1 hc2
          go_wp2_with fail
          refine wp_region_still_lit (by kernel_rfl) (by kernel_rfl) ?_
          change wpStill _ _ (World.drew _) (fun a' => Exit.then _ _ _ a' (World.drew _)) _ _
          iterate 9 ((with_reducible refine wpStill_step ?_); intro K hK; go_simp; refine hK _ ?_; clear hK K)
          refine wpStill_nil ?_
          go_wp2
          go_ret
          exact ⟨by rw [HN.out]; rfl, HB.out.drew⟩
      · obtain rfl : k = l.length := by omega
        have hlm : l = m := by rw [List.take_length] at hsm; rw [hsm, HE.out, List.take_length]
        have HY := Lib.hid (decide_eq_true hlm)
        clear hsm hlm
        go_wp2
        go_ret
        exact ⟨by rw [HY.out]; rfl, hbl⟩
  · have hne : ¬ l = m := fun e => hlen (by rw [e])
    have HN := Lib.hid (decide_eq_false hne)
    have hneq : ((l.length : Int) != (m.length : Int)) = true := by simp; omega
    clear hne
    go_enter Try.func20, Try.ntmps20
    go_wp2
    go_ret
    exact ⟨by rw [HN.out]; rfl, Below.refl _ _⟩
end Go.Proofs.Ytdgfbpkpfmdjjaa.Hk
