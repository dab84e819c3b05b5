/-
  Contracts of Find and Least, and of the statements' own few and awake.
-/
import Derived.Test.YtmblabonnioomaaB
namespace Go.Proofs.Ytmblabonnioomaa
open Go.RowKit
set_option linter.unusedVariables false

/-- a slice that reads as these strings, nil let in -/
def Strs (w : World) (B : Nat) (A : Option Addr) (ss : List ByteArray) : Prop :=
  ∀ i, i < ss.length → ∃ ad, A = some ad ∧ ad.block < B ∧ w.cell? (ad.add i) = some (.string (ss.getD i ByteArray.empty))
theorem block_of_add (a : Addr) (n : Nat) : (a.add n).block = a.block := by unfold Addr.add; split <;> rfl
theorem Strs.below {w w' : World} {B : Nat} {A : Option Addr} {ss : List ByteArray} (h : Strs w B A ss) (hb : Below B w w') : Strs w' B A ss := fun i hi => by
  obtain ⟨ad, e, hlt, hc⟩ := h i hi
  exact ⟨ad, e, hlt, by rw [hb.cell (by rw [block_of_add]; exact hlt)]; exact hc⟩
theorem Strs.drawn {w w' : World} {B : Nat} {A : Option Addr} {ss : List ByteArray} (h : Strs w B A ss) (hb : Drawn w w') : Strs w' B A ss := h.below (hb.below _)

def bls (ss : List ByteArray) : List (List UInt8) := ss.map bl
theorem bls_getD (ss : List ByteArray) (i : Nat) (h : i < ss.length) : (bls ss).getD i [] = bl (ss.getD i ByteArray.empty) := by
  simp [bls, List.getD, List.getElem?_eq_getElem h]
theorem mem_bls {ss : List ByteArray} {i : Nat} (h : i < ss.length) : bl (ss.getD i ByteArray.empty) ∈ bls ss := by
  simp only [bls, List.getD, List.getElem?_eq_getElem h, Option.getD_some]
  exact List.mem_map_of_mem (List.getElem_mem h)
theorem of_mem_bls {ss : List ByteArray} {x : List UInt8} (h : x ∈ bls ss) : ∃ i, i < ss.length ∧ x = bl (ss.getD i ByteArray.empty) := by
  obtain ⟨y, hy, rfl⟩ := List.mem_map.1 h
  obtain ⟨i, hi, rfl⟩ := List.getElem_of_mem hy
  exact ⟨i, hi, by simp [List.getD, List.getElem?_eq_getElem hi]⟩
theorem bl_inj {a b : ByteArray} (h : bl a = bl b) : a = b := by rw [← str_bl a, ← str_bl b, h]

theorem toList_bl (a : ByteArray) : a.toList = bl a := ByteArray.toList_eq a
theorem str_beq {a b : ByteArray} (h : a = b) : (a.toList == b.toList) = true := by rw [h]; simp
theorem str_bne {a b : ByteArray} (h : a ≠ b) : (a.toList == b.toList) = false := by
  rw [toList_bl, toList_bl, beq_eq_false_iff_ne]
  exact fun e => h (bl_inj e)

/-- what the loop of Find knows behind k names -/
def Found (ss : List ByteArray) (s : List UInt8) (k : Nat) (f : Int) : Prop :=
  (f = -1 ∧ ∀ j, j < k → M.begB (bl (ss.getD j ByteArray.empty)) s = false) ∨
  ∃ m : Nat, f = m ∧ m < k ∧ M.begB (bl (ss.getD m ByteArray.empty)) s = true ∧ ∀ j, j < k → M.begB (bl (ss.getD j ByteArray.empty)) s = true → ss.getD j ByteArray.empty = ss.getD m ByteArray.empty

section
variable {ss : List ByteArray} {s : List UInt8} {k m : Nat} {f : Int}
theorem found_skip (h : Found ss s k f) (hb : M.begB (bl (ss.getD k ByteArray.empty)) s = false) : Found ss s (k + 1) f := by
  rcases h with ⟨rfl, hn⟩ | ⟨m, rfl, hm, hbm, ha⟩
  · refine .inl ⟨rfl, fun j hj => ?_⟩
    by_cases e : j = k
    · subst e; exact hb
    · exact hn j (by omega)
  · refine .inr ⟨m, rfl, by omega, hbm, fun j hj hbj => ?_⟩
    by_cases e : j = k
    · subst e; rw [hb] at hbj; cases hbj
    · exact ha j (by omega) hbj
theorem found_first (hn : ∀ j, j < k → M.begB (bl (ss.getD j ByteArray.empty)) s = false) (hb : M.begB (bl (ss.getD k ByteArray.empty)) s = true) : Found ss s (k + 1) k := by
  refine .inr ⟨k, rfl, by omega, hb, fun j hj hbj => ?_⟩
  by_cases e : j = k
  · subst e; rfl
  · rw [hn j (by omega)] at hbj; cases hbj
theorem found_again (hb : M.begB (bl (ss.getD k ByteArray.empty)) s = true) (he : ss.getD k ByteArray.empty = ss.getD m ByteArray.empty)
    (ha : ∀ j, j < k → M.begB (bl (ss.getD j ByteArray.empty)) s = true → ss.getD j ByteArray.empty = ss.getD m ByteArray.empty) : Found ss s (k + 1) k := by
  refine .inr ⟨k, rfl, by omega, hb, fun j hj hbj => ?_⟩
  by_cases e : j = k
  · subst e; rfl
  · rw [he]; exact ha j (by omega) hbj
theorem found_many (hs : M.shortC s = 0) (hk : k < ss.length) (hb : M.begB (bl (ss.getD k ByteArray.empty)) s = true) (hm : m < ss.length) (hbm : M.begB (bl (ss.getD m ByteArray.empty)) s = true)
    (hne : ss.getD k ByteArray.empty ≠ ss.getD m ByteArray.empty) : M.findR (bls ss) s = ([], 11) :=
  M.findR_many hs (mem_bls hk) hb (mem_bls hm) hbm (fun e => hne (bl_inj e))
theorem found_none (hs : M.shortC s = 0) (hn : ∀ j, j < ss.length → M.begB (bl (ss.getD j ByteArray.empty)) s = false) : M.findR (bls ss) s = ([], 5) :=
  M.findR_none hs (fun x hx => by
    obtain ⟨i, hi, rfl⟩ := of_mem_bls hx
    exact hn i hi)
theorem found_one (hs : M.shortC s = 0) (hm : m < ss.length) (hb : M.begB (bl (ss.getD m ByteArray.empty)) s = true)
    (ha : ∀ j, j < ss.length → M.begB (bl (ss.getD j ByteArray.empty)) s = true → ss.getD j ByteArray.empty = ss.getD m ByteArray.empty) : M.findR (bls ss) s = (bl (ss.getD m ByteArray.empty), 0) :=
  M.findR_one hs (mem_bls hm) hb (fun y hy hby => by
    obtain ⟨i, hi, rfl⟩ := of_mem_bls hy
    rw [ha i hi hby])
end

theorem ret_find {a b : ByteArray} {x y : Int} (h : a = b) (k : x = y) : Ending.returned (.tuple #[.string a, .int .i64 x]) = .returned (.tuple #[.string b, .int .i64 y]) := by rw [h, k]

set_option maxHeartbeats 400000 in
theorem Find_any (A : Option Addr) (c B : Nat) (ss : List ByteArray) (s : ByteArray) (w : World) (hr : Strs w B A ss) (hn : ss.length ≤ 100000) (hz : ∀ i, i < ss.length → (ss.getD i ByteArray.empty).size ≤ 100000) (hs : s.size ≤ 100000) :
    Calls Try.prog 12 #[.slice A ss.length c, .string s] w fun e w' => e = .returned (.tuple #[.string (str (M.findR (bls ss) (bl s)).1), .int .i64 (M.findR (bls ss) (bl s)).2]) ∧ Drawn w w' := by
  by_cases hsh : M.shortC (bl s) = 0
  · have h0 : (M.shortC (bl s) != 0) = false := by rw [hsh]; rfl
    have HS := Lib.hid hsh
    have HR := Lib.hid hr
    have HZ := Lib.hid hz
    clear hsh hr hz
    go_enter Try.func12, Try.ntmps12
    go_wp2_with (go_at_call 16; refine (Short_any _ _ hs).mono ?_; rintro e w' ⟨rfl, rfl⟩)
    go_loopg [7, 16] ss.length (fun g f i wr => ∃ (k : Nat) (x : Int), k ≤ ss.length ∧ g = ss.length - k ∧ i = .int .i64 k ∧ f = .int .i64 x ∧ Found ss (bl s) k x ∧ Drawn w wr)
    case atStart => exact ⟨0, -1, Nat.zero_le _, rfl, rfl, rfl, .inl ⟨rfl, fun j hj => absurd hj (Nat.not_lt_zero _)⟩, Drawn.refl _⟩
    case round =>
      obtain ⟨k, x, hk, rfl, rfl, rfl, hf, hdr⟩ := hrel
      by_cases hlt : k < ss.length
      · obtain ⟨ad, rfl, hblk, hc0⟩ := HR.out k hlt
        have hzk := HZ.out k hlt
        have hc : wr.cell? (ad.add k) = some (.string (ss.getD k ByteArray.empty)) := by rw [hdr.cell]; exact hc0
        clear hc0
        have HF := Lib.hid hf
        clear hf
        generalize hy : ss.getD k ByteArray.empty = y at *
        have HY := Lib.hid hy
        clear hy
        cases hbeg : M.begB (bl y) (bl s)
        · have HB := Lib.hid hbeg
          go_wp2_with (go_at_call 18; refine (Begins_any _ _ _ hzk hs).mono ?_; rintro e w1 ⟨rfl, hd1⟩)
          go_roundg (ss.length - (k + 1))
          case rel => exact ⟨k + 1, x, by omega, rfl, by go_num, rfl, found_skip HF.out (by rw [HY.out]; exact HB.out), hdr.trans hd1⟩
          case measure => omega
        · have HB := Lib.hid hbeg
          rcases HF.out with ⟨rfl, hnone⟩ | ⟨m, rfl, hm, hbm, hall⟩
          · have HN := Lib.hid hnone
            clear hnone
            go_wp2_with (go_at_call 18; refine (Begins_any _ _ _ hzk hs).mono ?_; rintro e w1 ⟨rfl, hd1⟩)
            go_quiet (fail)
            go_wp2
            go_roundg (ss.length - (k + 1))
            case rel => exact ⟨k + 1, k, by omega, rfl, by go_num, rfl, found_first HN.out (by rw [HY.out]; exact HB.out), (hdr.trans hd1).more _⟩
            case measure => omega
          · have HA := Lib.hid hall
            have HM := Lib.hid hbm
            clear hall hbm
            obtain ⟨ad', had, _, hcm0⟩ := HR.out m (by omega)
            obtain rfl : ad = ad' := by injection had
            clear had
            generalize hz : ss.getD m ByteArray.empty = z at *
            have HZ2 := Lib.hid hz
            clear hz
            have hml : m < ss.length := by omega
            by_cases hyz : y = z
            · have hne : (y.toList == z.toList) = true := str_beq hyz
              have HE := Lib.hid hyz
              clear hyz
              go_wp2_with (go_at_call 18; refine (Begins_any _ _ _ hzk hs).mono ?_; rintro e w1 ⟨rfl, hd1⟩)
              have c1 : w1.cell? (ad.add k) = some (.string y) := by rw [hd1.cell]; exact hc
              have c2 : w1.cell? (ad.add m) = some (.string z) := by rw [hd1.cell, hdr.cell]; exact hcm0
              go_quiet (fail)
              go_wp2
              go_roundg (ss.length - (k + 1))
              case rel => exact ⟨k + 1, k, by omega, rfl, by go_num, rfl, found_again (m := m) (by rw [HY.out]; exact HB.out) (by rw [HY.out, HZ2.out]; exact HE.out) (by rw [HZ2.out]; exact HA.out), (hdr.trans hd1).more _⟩
              case measure => omega
            · have hne : (y.toList == z.toList) = false := str_bne hyz
              have HE := Lib.hid hyz
              clear hyz
              go_wp2_with (go_at_call 18; refine (Begins_any _ _ _ hzk hs).mono ?_; rintro e w1 ⟨rfl, hd1⟩)
              have c1 : w1.cell? (ad.add k) = some (.string y) := by rw [hd1.cell]; exact hc
              have c2 : w1.cell? (ad.add m) = some (.string z) := by rw [hd1.cell, hdr.cell]; exact hcm0
              go_quiet (fail)
              go_wp2
              go_ret2
              have hv := found_many (ss := ss) (s := bl s) HS.out hlt (by rw [HY.out]; exact HB.out) hml (by rw [HZ2.out]; exact HM.out) (by rw [HY.out, HZ2.out]; exact HE.out)
              exact ⟨ret_find (by rw [hv]; rfl) (by rw [hv]), (hdr.trans hd1).more _⟩
      · obtain rfl : k = ss.length := by omega
        rcases hf with ⟨rfl, hnone⟩ | ⟨m, rfl, hm, hbm, hall⟩
        · have hv := found_none (ss := ss) HS.out hnone
          have HV := Lib.hid hv
          clear hv hnone
          go_wp2
          go_ret2
          exact ⟨ret_find (by rw [HV.out]; rfl) (by rw [HV.out]), hdr⟩
        · obtain ⟨ad, rfl, _, hcm0⟩ := HR.out m hm
          have hv := found_one (ss := ss) HS.out hm hbm hall
          have HV := Lib.hid hv
          clear hv hall hbm
          have hc : wr.cell? (ad.add m) = some (.string (ss.getD m ByteArray.empty)) := by rw [hdr.cell]; exact hcm0
          clear hcm0
          generalize hz : ss.getD m ByteArray.empty = z at *
          have HZ2 := Lib.hid hz
          clear hz
          go_wp2
          go_ret2
          exact ⟨ret_find (by rw [HV.out]; exact (str_bl z).symm) (by rw [HV.out]), hdr⟩
  · have h0 : (M.shortC (bl s) != 0) = true := by simpa using hsh
    have hv := M.findR_short (l := bls ss) hsh
    have HV := Lib.hid hv
    clear hv hsh
    go_enter Try.func12, Try.ntmps12
    go_wp2_with (go_at_call 16; refine (Short_any _ _ hs).mono ?_; rintro e w' ⟨rfl, rfl⟩)
    go_ret2
    exact ⟨ret_find (by rw [HV.out]; rfl) (by rw [HV.out]), Drawn.refl _⟩

set_option maxHeartbeats 400000 in
theorem Least_any (A : Option Addr) (c B : Nat) (ss : List ByteArray) (b : ByteArray) (w : World) (hr : Strs w B A ss) (hn : ss.length ≤ 100000) (hz : ∀ i, i < ss.length → (ss.getD i ByteArray.empty).size ≤ 100000) (hb : b.size ≤ 100000) :
    Calls Try.prog 24 #[.slice A ss.length c, .string b] w fun e w' => e = .returned (.int .i64 (M.least (bls ss) (bl b))) ∧ w = w' := by
  have HR := Lib.hid hr
  have HZ := Lib.hid hz
  clear hr hz
  have hmax := M.leastN_le (bls ss) (bl b)
  rw [bl_length] at hmax
  have HX := Lib.hid hmax
  clear hmax
  go_enter Try.func24, Try.ntmps24
  go_wp2
  go_loopg [5, 10] ss.length (fun g x i wr => ∃ (k v : Nat), k ≤ ss.length ∧ g = ss.length - k ∧ i = .int .i64 k ∧ x = .int .i64 v ∧ v = M.leastN (bls ss) (bl b) k ∧ w = wr)
  case atStart => exact ⟨0, 4, Nat.zero_le _, rfl, rfl, rfl, rfl, rfl⟩
  case round =>
    obtain ⟨k, v, hk, rfl, rfl, rfl, hv, rfl⟩ := hrel
    have hvb := HX.out k
    rw [← hv] at hvb
    have HV := Lib.hid hv
    clear hv
    by_cases hlt : k < ss.length
    · obtain ⟨ad, rfl, hblk, hc⟩ := HR.out k hlt
      have hzk := HZ.out k hlt
      have hg := bls_getD ss k hlt
      generalize hy : ss.getD k ByteArray.empty = y at *
      have HY := Lib.hid hy
      have HG := Lib.hid hg
      clear hy hg
      by_cases hyb : y = b
      · have he : (y.toList == b.toList) = true := str_beq hyb
        have HE := Lib.hid hyb
        clear hyb
        go_wp2
        go_roundg (ss.length - (k + 1))
        case rel => exact ⟨k + 1, v, by omega, rfl, by go_num, rfl, by rw [HV.out, M.leastN, HG.out, if_pos (by rw [HE.out])], rfl⟩
        case measure => omega
      · have he : (y.toList == b.toList) = false := str_bne hyb
        have HE := Lib.hid hyb
        clear hyb
        have hal := M.alikeN_le (M.digs (bl y)) (M.digs (bl b))
        rw [M.digs_length, bl_length] at hal
        by_cases hmx : v < M.alikeN (M.digs (bl y)) (M.digs (bl b)) + 1
        · have hmx' : (v : Int) < (M.alikeN (M.digs (bl y)) (M.digs (bl b)) : Int) + 1 := by omega
          have hst : M.alikeN (M.digs (bl y)) (M.digs (bl b)) + 1 = M.leastN (bls ss) (bl b) (k + 1) := by
            rw [M.leastN, HG.out, if_neg (fun e => HE.out (bl_inj e)), ← HV.out]
            omega
          have HS := Lib.hid hst
          clear hst
          go_wp2_with (go_at_call 30; refine (alike_any _ _ _ hzk hb).mono ?_; rintro e w1 ⟨rfl, rfl⟩)
          go_roundg (ss.length - (k + 1))
          case rel => exact ⟨k + 1, _, by omega, rfl, by go_num, by go_num, HS.out, rfl⟩
          case measure => omega
        · have hmx' : ¬ (v : Int) < (M.alikeN (M.digs (bl y)) (M.digs (bl b)) : Int) + 1 := by omega
          have hst : v = M.leastN (bls ss) (bl b) (k + 1) := by
            rw [M.leastN, HG.out, if_neg (fun e => HE.out (bl_inj e)), ← HV.out]
            omega
          have HS := Lib.hid hst
          clear hst
          go_wp2_with (go_at_call 30; refine (alike_any _ _ _ hzk hb).mono ?_; rintro e w1 ⟨rfl, rfl⟩)
          go_roundg (ss.length - (k + 1))
          case rel => exact ⟨k + 1, v, by omega, rfl, by go_num, rfl, HS.out, rfl⟩
          case measure => omega
    · obtain rfl : k = ss.length := by omega
      have hfin : M.least (bls ss) (bl b) = max 4 (min v (2 * b.size)) := by rw [M.least, bl_length, show (bls ss).length = ss.length by simp [bls], ← HV.out]
      have HF := Lib.hid hfin
      clear hfin
      go_wp2
      all_goals go_ret
      all_goals exact ⟨ret_int (by rw [HF.out]; omega), rfl⟩
end Go.Proofs.Ytmblabonnioomaa
