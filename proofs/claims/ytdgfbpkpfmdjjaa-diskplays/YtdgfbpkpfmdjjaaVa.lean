/-
  The document's disk (layer 7) as Lean functions; its Find and without.
-/
import Derived.Test.YtdgfbpkpfmdjjaaRc
namespace Go.Proofs.Ytdgfbpkpfmdjjaa.Hk
open Go.RowKit Hr
set_option linter.unusedVariables false

/-- a file: path, text -/
abbrev Fl := ByteArray × ByteArray
def fcells (p : Fl) : List Value := [.string p.1, .string p.2]
theorem fcells_len (p : Fl) : (fcells p).length = 2 := rfl
theorem fcells_one (p : Fl) (u : Value) (h : u ∈ fcells p) : u.oneCell' = true := by
  simp [fcells] at h
  rcases h with rfl | rfl <;> rfl
/-- an effect: kind, path, text -/
abbrev Ef := Int × ByteArray × ByteArray
def ecells (e : Ef) : List Value := [.int .i64 e.1, .string e.2.1, .string e.2.2]
theorem ecells_len (e : Ef) : (ecells e).length = 3 := rfl
theorem ecells_one (e : Ef) (u : Value) (h : u ∈ ecells e) : u.oneCell' = true := by
  simp [ecells] at h
  rcases h with rfl | rfl | rfl <;> rfl
abbrev Fls (w : World) (B : Nat) (A : Option Addr) (l : List Fl) : Prop := Recs 2 fcells w B A l
abbrev Efs (w : World) (B : Nat) (A : Option Addr) (l : List Ef) : Prop := Recs 3 ecells w B A l
theorem fl_elem : ∃ i, ElemOf 29 78 2 i (.agg #[.string ByteArray.empty, .string ByteArray.empty]) 32 := mkElem Try.underlying29 (by kernel_rfl) rfl (by omega) (by omega)
theorem ef_elem : ∃ i, ElemOf 30 46 3 i (.agg #[.int .i64 0, .string ByteArray.empty, .string ByteArray.empty]) 40 := mkElem Try.underlying30 (by kernel_rfl) rfl (by omega) (by omega)

/-! ### as Lean functions -/
def findF (l : List Fl) (p : ByteArray) : Option ByteArray := (l.find? fun q => decide (q.1 = p)).map (·.2)
def withoutF (l : List Fl) (p : ByteArray) : List Fl := l.filter fun q => decide (q.1 ≠ p)
def lessS (a b : ByteArray) : Bool := Op.bytesLess a.toList b.toList
def putAt (l : List Fl) (p : ByteArray) : Nat := (l.takeWhile fun q => lessS q.1 p).length
def withF (l : List Fl) (q : Fl) : List Fl := (withoutF l q.1).take (putAt (withoutF l q.1) q.1) ++ [q] ++ (withoutF l q.1).drop (putAt (withoutF l q.1) q.1)
def doneF (l : List Fl) (e : Ef) : List Fl := if e.1 = 1 then withF l (e.2.1, e.2.2) else if e.1 = 2 then (match findF l e.2.1 with | none => l | some t => withF (withoutF l e.2.1) (e.2.2, t)) else withoutF l e.2.1
def seenF (l : List Fl) (rs : List Ef) : List Fl := rs.foldl doneF l
def takenF (l : List Fl) : Nat := (l.map fun q => q.1.size + q.2.size).sum
theorem withoutF_len (l : List Fl) (p : ByteArray) : (withoutF l p).length ≤ l.length := List.length_filter_le _ _
theorem withF_len (l : List Fl) (q : Fl) : (withF l q).length ≤ l.length + 1 := by
  have := withoutF_len l q.1
  simp only [withF, List.length_append, List.length_take, List.length_drop, List.length_cons, List.length_nil]
  omega
theorem doneF_len (l : List Fl) (e : Ef) : (doneF l e).length ≤ l.length + 1 := by
  unfold doneF
  split
  · exact withF_len _ _
  · split
    · cases findF l e.2.1 with
      | none => simp
      | some t => exact Nat.le_trans (withF_len _ _) (Nat.succ_le_succ (withoutF_len _ _))
    · exact Nat.le_succ_of_le (withoutF_len _ _)
theorem seenF_len (rs : List Ef) : ∀ l : List Fl, (seenF l rs).length ≤ l.length + rs.length := by
  induction rs with
  | nil => intro l; simp [seenF]
  | cons e rs ih =>
    intro l
    have h1 := ih (doneF l e)
    have h2 := doneF_len l e
    simp only [seenF, List.foldl_cons, List.length_cons] at *
    omega
theorem findF_take {l : List Fl} {p : ByteArray} {i : Nat} (hi : i < l.length) (hn : ∀ j, j < i → (l.getD j default).1 ≠ p) (he : (l.getD i default).1 = p) : findF l p = some (l.getD i default).2 := by
  induction l generalizing i with
  | nil => cases hi
  | cons q l ih =>
    unfold findF
    cases i with
    | zero => simp at he; simp [he]
    | succ i =>
      have h0 := hn 0 (by omega)
      simp at h0
      rw [List.find?_cons, decide_eq_false h0]
      have := ih (i := i) (by simpa using hi) (fun j hj => by have := hn (j + 1) (by omega); simpa using this) (by simpa using he)
      simpa [findF] using this
theorem findF_none {l : List Fl} {p : ByteArray} (hn : ∀ j, j < l.length → (l.getD j default).1 ≠ p) : findF l p = none := by
  unfold findF
  rw [Option.map_eq_none_iff, List.find?_eq_none]
  intro q hq
  obtain ⟨j, hj, rfl⟩ := List.mem_iff_getElem.1 hq
  have := hn j hj
  simpa [List.getD, List.getElem?_eq_getElem hj] using this
theorem withoutF_succ {l : List Fl} {p : ByteArray} {i : Nat} (hi : i < l.length) : withoutF (l.take (i + 1)) p = withoutF (l.take i) p ++ (if (l.getD i default).1 = p then [] else [l.getD i default]) := by
  rw [List.take_add_one, List.getElem?_eq_getElem hi]
  simp only [withoutF, Option.toList_some, List.filter_append, List.filter_cons, List.filter_nil, List.getD, List.getElem?_eq_getElem hi, Option.getD_some]
  by_cases h : l[i].1 = p
  · simp [h]
  · simp [h]

/-! ### Find -/
def texOf (o : Option ByteArray) : ByteArray := o.getD ByteArray.empty
set_option maxHeartbeats 1000000 in
set_option maxRecDepth 100000 in
theorem find_any (w : World) (B : Nat) (A : Option Addr) (c : Nat) (l : List Fl) (p : ByteArray) (h : Fls w B A l) (hl : l.length ≤ 100000) :
    Calls Try.prog 16 #[.slice A l.length c, .string p] w fun e w' => e = .returned (.tuple #[.string (texOf (findF l p)), .bool (findF l p).isSome]) ∧ w' = w := by
  have HI := Lib.hid h
  clear h
  go_enter Try.func16, Try.ntmps16
  go_wp2
  go_loopg [6] l.length (fun g i wr => ∃ k : Nat, k ≤ l.length ∧ g = l.length - k ∧ i = .int .i64 k ∧ w = wr ∧ ∀ j, j < k → (l.getD j default).1 ≠ p)
  case atStart => exact ⟨0, Nat.zero_le _, rfl, rfl, rfl, fun j hj => by omega⟩
  case round =>
    obtain ⟨k, hk, rfl, rfl, rfl, hno⟩ := hrel
    by_cases hlt : k < l.length
    · have h1 : (k : Int) < l.length := by omega
      have h0 : (0 : Int) ≤ k := by omega
      obtain ⟨ad, rfl, hB, hc⟩ := HI.out k hlt
      have c0 : w.cell? (ad.add (k * 2)) = some (.string (l.getD k default).1) := hc 0 (by omega)
      have c1 : w.cell? ⟨(ad.add (k * 2)).block, (ad.add (k * 2)).off + 1, none⟩ = some (.string (l.getD k default).2) := hc 1 (by omega)
      by_cases he : (l.getD k default).1 = p
      · have HF := Lib.hid (findF_take hlt hno he)
        have hq := str_beq he
        generalize (l.getD k default).1 = x at *
        generalize (l.getD k default).2 = y at *
        clear hno hc he
        go_wp2
        go_ret2
        exact ⟨by rw [HF.out]; rfl, rfl⟩
      · have HN := Lib.hid (show ∀ j, j < k + 1 → (l.getD j default).1 ≠ p from fun j hj => by
          by_cases e : j = k
          · rw [e]; exact he
          · exact hno j (by omega))
        have hq := str_bne he
        generalize (l.getD k default).1 = x at *
        generalize (l.getD k default).2 = y at *
        clear hno hc
        go_wp2
        go_roundg (l.length - (k + 1))
        case rel => exact ⟨k + 1, by omega, rfl, by go_num, rfl, HN.out⟩
        case measure => omega
    · obtain rfl : k = l.length := by omega
      have HF := Lib.hid (findF_none hno)
      clear hno
      go_wp2
      go_ret2
      exact ⟨by rw [HF.out]; rfl, rfl⟩

/-! ### without -/
set_option maxHeartbeats 1000000 in
set_option maxRecDepth 100000 in
theorem without_any (w : World) (B : Nat) (A : Option Addr) (c : Nat) (l : List Fl) (p : ByteArray) (h : Fls w B A l) (hB : B ≤ w.heap.size) (hl : l.length ≤ 10000) :
    Calls Try.prog 47 #[.slice A l.length c, .string p] w fun e w' => (∃ A2 c2, e = .returned (.slice A2 (withoutF l p).length c2) ∧ w'.ownsRow w.heap.size 78 2 (.slice A2 (withoutF l p).length c2) (withoutF l p).length ((withoutF l p).flatMap fcells)) ∧ Below w.heap.size w w' := by
  obtain ⟨i0, E⟩ := fl_elem
  have HE := Lib.hid E
  clear E
  have HP := Lib.hid h
  clear h
  go_enter Try.func47, Try.ntmps47
  go_wp2
  go_loopg [5, 6] l.length (fun g v i wr => ∃ (j : Nat) (A2 : Option Addr) (c2 : Nat), j ≤ l.length ∧ g = l.length - j ∧ i = .int .i64 j ∧ v = .slice A2 (withoutF (l.take j) p).length c2 ∧ Below w.heap.size w wr ∧ wr.ownsRow w.heap.size 78 2 v (withoutF (l.take j) p).length ((withoutF (l.take j) p).flatMap fcells))
  case atStart => exact ⟨0, none, 0, Nat.zero_le _, rfl, rfl, rfl, Below.refl _ _, ⟨rfl, .inl ⟨rfl, rfl⟩⟩⟩
  case round =>
    obtain ⟨j, A2, c2, hj, rfl, rfl, rfl, hbl, hown⟩ := hrel
    by_cases hlt : j < l.length
    · have h1 : (j : Int) < l.length := by omega
      have h0 : (0 : Int) ≤ j := by omega
      obtain ⟨ad, rfl, hB1, hc⟩ := (HP.out.below (hbl.mono hB)) j hlt
      have c0 : wr.cell? (ad.add (j * 2)) = some (.string (l.getD j default).1) := hc 0 (by omega)
      have c1 : wr.cell? ⟨(ad.add (j * 2)).block, (ad.add (j * 2)).off + 1, none⟩ = some (.string (l.getD j default).2) := hc 1 (by omega)
      have hsu := withoutF_succ (p := p) hlt
      have hle := Nat.le_trans (withoutF_len (l.take j) p) (by rw [List.length_take]; omega : (l.take j).length ≤ l.length)
      have hblw := hbl.size
      by_cases he : (l.getD j default).1 = p
      · rw [if_pos he, List.append_nil] at hsu
        have hq := str_beq he
        have HS := Lib.hid hsu
        have HO := Lib.hid hown
        have HB := Lib.hid hbl
        generalize (l.getD j default).1 = x at *
        generalize (l.getD j default).2 = y at *
        clear hsu hown hbl hc he
        go_wp2
        go_roundg (l.length - (j + 1))
        case rel => exact ⟨j + 1, A2, c2, by omega, rfl, by go_num, by rw [HS.out], HB.out, by rw [HS.out]; exact HO.out⟩
        case measure => omega
      · rw [if_neg he] at hsu
        have hq := str_bne he
        have hnew : Recs 2 fcells (wr.alloc (.cells #[.string (l.getD j default).1, .string (l.getD j default).2] 78)) (wr.heap.size + 1) (some ⟨wr.heap.size, 0, none⟩) [l.getD j default] := fun i hi => by
          have hi0 : i = 0 := by simpa using hi
          subst hi0
          refine ⟨_, rfl, by simp, fun j' hj' => ?_⟩
          have hblk := heap_alloc_new wr (.cells #[.string (l.getD j default).1, .string (l.getD j default).2] 78)
          rw [add_add, Addr.add_lit]
          simp only [World.cell?, hblk]
          have h2 : j' = 0 ∨ j' = 1 := by omega
          rcases h2 with rfl | rfl <;> rfl
        obtain ⟨v', w', hrun, hown', hgr, _⟩ := app_recs HE.out fcells_len fcells_one (wr.alloc (.cells #[.string (l.getD j default).1, .string (l.getD j default).2] 78)) w.heap.size _ (withoutF (l.take j) p) [l.getD j default] (some ⟨wr.heap.size, 0, none⟩) 1 _ 29 (hown.alloc _) hnew (by omega) (by simp) (by simp; omega)
        have hbl2 : Below w.heap.size w w' := (hbl.alloc hblw _).grown hgr (by simp; omega) (fun i hi => (hown.lt i hi).1)
        rw [← hsu] at hown'
        obtain ⟨A3, c3, rfl, _, _⟩ := recs_own fcells_len (by omega) hown'
        have HO := Lib.hid (And.intro hown' hbl2)
        have HRUN := Lib.hid hrun
        generalize (l.getD j default).1 = x at *
        generalize (l.getD j default).2 = y at *
        clear hsu hown hbl hc he hnew hown' hgr hbl2 hrun
        go_wp2_with (at_builtin; refine wpList_append_run rfl (.tmp 20) (.tmp 25) 29 29 rfl _ _ _ w' rfl rfl HRUN.out ?_)
        go_roundg (l.length - (j + 1))
        case rel => exact ⟨j + 1, A3, c3, by omega, rfl, by go_num, rfl, HO.out.2, HO.out.1⟩
        case measure => omega
    · obtain rfl : j = l.length := by omega
      rw [List.take_length] at hown
      have HO := Lib.hid (And.intro hown hbl)
      rw [List.take_length]
      clear hown hbl
      go_wp2
      go_ret
      exact ⟨⟨A2, c2, rfl, HO.out.1⟩, HO.out.2⟩
end Go.Proofs.Ytdgfbpkpfmdjjaa.Hk
