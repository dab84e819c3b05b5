/-
  Layer 10 as Lean functions: words of kinds, decimal digits, an object's row; the document's Word, Kind, Decimal, Row.
  Layer 10 as Lean functions: names.
  Layer 10: rows of unlike kinds or contents are unlike. Plain: no part of the program is named here.
-/
import Derived.Test.YtmbbigmnliiadaaGreatDoorG1
import Derived.StillTailTactics
import Derived.Test.YtmbbigmnliiadaaGreatDoorDa
import Derived.Test.YtmbbigmnliiadaaGreatDoorS1
namespace Go.Proofs.YtmbbigmnliiadaaGreatDoor.Idf

def word (k : Int) : ByteArray :=
  if k = 1 then ⟨#[98, 108, 111, 98]⟩ else if k = 2 then ⟨#[116, 114, 101, 101]⟩ else if k = 3 then ⟨#[99, 111, 109, 109, 105, 116]⟩ else if k = 4 then ⟨#[116, 97, 103]⟩ else ⟨#[]⟩
theorem word1 : word 1 = ⟨#[98, 108, 111, 98]⟩ := rfl
theorem word2 : word 2 = ⟨#[116, 114, 101, 101]⟩ := rfl
theorem word3 : word 3 = ⟨#[99, 111, 109, 109, 105, 116]⟩ := rfl
theorem word4 : word 4 = ⟨#[116, 97, 103]⟩ := rfl
theorem word_no {k : Int} (h : ¬ (1 ≤ k ∧ k ≤ 4)) : word k = ⟨#[]⟩ := by
  unfold word
  rw [if_neg (by omega), if_neg (by omega), if_neg (by omega), if_neg (by omega)]
theorem word_size (k : Int) : (word k).size ≤ 6 := by
  unfold word
  split
  · decide
  · split
    · decide
    · split
      · decide
      · split <;> decide
theorem kind_cases {k : Int} (h : 1 ≤ k ∧ k ≤ 4) : k = 1 ∨ k = 2 ∨ k = 3 ∨ k = 4 := by omega
theorem word_some {k : Int} (h : 1 ≤ k ∧ k ≤ 4) : 3 ≤ (word k).size := by
  rcases kind_cases h with rfl | rfl | rfl | rfl <;> decide
def kindF (s : ByteArray) : Int := if word 1 = s then 1 else if word 2 = s then 2 else if word 3 = s then 3 else if word 4 = s then 4 else 0

theorem kind_at {s : ByteArray} (k : Nat) (h1 : 1 ≤ k) (h5 : k < 5) (hj : ∀ j : Nat, 1 ≤ j → j < k → word j ≠ s) (he : word k = s) : kindF s = k := by
  unfold kindF
  match k, h1, h5, hj, he with
  | 1, _, _, _, he => exact if_pos he
  | 2, _, _, hj, he => exact (if_neg (hj 1 (by omega) (by omega))).trans (if_pos he)
  | 3, _, _, hj, he => exact (if_neg (hj 1 (by omega) (by omega))).trans ((if_neg (hj 2 (by omega) (by omega))).trans (if_pos he))
  | 4, _, _, hj, he => exact (if_neg (hj 1 (by omega) (by omega))).trans ((if_neg (hj 2 (by omega) (by omega))).trans ((if_neg (hj 3 (by omega) (by omega))).trans (if_pos he)))
theorem kind_none {s : ByteArray} (hj : ∀ j : Nat, 1 ≤ j → j < 5 → word j ≠ s) : kindF s = 0 :=
  (if_neg (hj 1 (by omega) (by omega))).trans ((if_neg (hj 2 (by omega) (by omega))).trans ((if_neg (hj 3 (by omega) (by omega))).trans (if_neg (hj 4 (by omega) (by omega)))))

def dec (n : Nat) : List UInt8 := if n < 10 then [UInt8.ofNat (48 + n)] else dec (n / 10) ++ [UInt8.ofNat (48 + n % 10)]
termination_by n
decreasing_by omega
theorem dec_small {n : Nat} (h : n < 10) : dec n = [UInt8.ofNat (48 + n)] := by rw [dec, if_pos h]
theorem dec_big {n : Nat} (h : ¬ n < 10) : dec n = dec (n / 10) ++ [UInt8.ofNat (48 + n % 10)] := by rw [dec, if_neg h]
theorem dec_len (n : Nat) (k : Nat) (h : n < 10 ^ (k + 1)) : (dec n).length ≤ k + 1 := by
  induction k generalizing n with
  | zero => rw [dec_small (by omega)]; simp
  | succ k ih =>
    by_cases h1 : n < 10
    · rw [dec_small h1]; simp
    · rw [dec_big h1, List.length_append]
      have := ih (n / 10) (by rw [Nat.pow_succ] at h; omega)
      simp only [List.length_cons, List.length_nil]
      omega
/-- an object's row -/
def row (k : Int) (c : ByteArray) : ByteArray := if 1 ≤ k ∧ k ≤ 4 then word k ++ ⟨#[32]⟩ ++ str (dec c.size) ++ ⟨#[0]⟩ ++ c else ⟨#[]⟩
end Go.Proofs.YtmbbigmnliiadaaGreatDoor.Idf
namespace Go.Proofs.YtmbbigmnliiadaaGreatDoor.Hi
open Go.RowKit Hg
set_option linter.unusedVariables false

set_option maxHeartbeats 2000000 in
set_option maxRecDepth 100000 in
theorem rword_any (k : Int) (w : World) : Calls Tryz.prog 12 #[.int .i64 k] w fun e w' => e = .returned (.string (Idf.word k)) ∧ w' = w := by
  by_cases h : 1 ≤ k ∧ k ≤ 4
  · rcases Idf.kind_cases h with rfl | rfl | rfl | rfl
    all_goals
      go_enter Tryz.func12, Tryz.ntmps12
      go_wp2
      go_ret
      exact ⟨rfl, rfl⟩
  · have HN := Lib.hid (Idf.word_no h)
    have h1 : (k == 1) = false := beq_eq_false_iff_ne.2 (by omega)
    have h2 : (k == 2) = false := beq_eq_false_iff_ne.2 (by omega)
    have h3 : (k == 3) = false := beq_eq_false_iff_ne.2 (by omega)
    have h4 : (k == 4) = false := beq_eq_false_iff_ne.2 (by omega)
    clear h
    go_enter Tryz.func12, Tryz.ntmps12
    go_wp2
    go_ret
    exact ⟨by rw [HN.out]; rfl, rfl⟩

set_option maxHeartbeats 2000000 in
set_option maxRecDepth 100000 in
theorem rkind_any (s : ByteArray) (w : World) : Calls Tryz.prog 14 #[.string s] w fun e w' => e = .returned (.int .i64 (Idf.kindF s)) ∧ w' = w := by
  have HW := Lib.hid (fun k w' => rword_any k w')
  go_enter Tryz.func14, Tryz.ntmps14
  go_wp2_with fail
  go_loopg [3] 4 (fun gk v wr => ∃ k : Nat, 1 ≤ k ∧ k ≤ 5 ∧ gk = 5 - k ∧ v = .int .i64 k ∧ (∀ j : Nat, 1 ≤ j → j < k → Idf.word j ≠ s) ∧ wr = w)
  case atStart => exact ⟨1, by omega, by omega, rfl, rfl, fun j h1 h2 => by omega, rfl⟩
  case round =>
    obtain ⟨k, hk1, hk5, rfl, rfl, hj, rfl⟩ := hrel
    have HJ := Lib.hid hj
    clear hj
    by_cases h5 : k < 5
    · have h5i : (k : Int) < 5 := by omega
      have hk4 : (k : Int) ≤ 4 := by omega
      by_cases he : Idf.word k = s
      · have hq := str_beq he
        have HE := Lib.hid (Idf.kind_at k hk1 h5 HJ.out he)
        have HWk := Lib.hid (HW.out (k : Int))
        clear he HW
        generalize Idf.word k = x at *
        go_wp2_with (go_at_call 12; refine (HWk.out _).mono ?_; rintro r w2 ⟨rfl, rfl⟩)
        go_ret
        exact ⟨by rw [HE.out]; rfl, rfl⟩
      · have hq := str_bne he
        have HE := Lib.hid (show ∀ j : Nat, 1 ≤ j → j < k + 1 → Idf.word j ≠ s from fun j h1 h2 => by
          by_cases h : j = k
          · subst h; exact he
          · exact HJ.out j h1 (by omega))
        have HWk := Lib.hid (HW.out (k : Int))
        clear he HW
        generalize Idf.word k = x at *
        go_wp2_with (go_at_call 12; refine (HWk.out _).mono ?_; rintro r w2 ⟨rfl, rfl⟩)
        go_roundg (5 - (k + 1))
        case rel => exact ⟨k + 1, by omega, by omega, rfl, by go_num, HE.out, rfl⟩
        case measure => omega
    · have h5i : ¬ (k : Int) < 5 := by omega
      have HE := Lib.hid (Idf.kind_none (s := s) (fun j h1 h2 => HJ.out j h1 (by omega)))
      go_wp2
      go_ret
      exact ⟨by rw [HE.out]; rfl, rfl⟩

set_option maxHeartbeats 2000000 in
set_option maxRecDepth 100000 in
theorem rdec_any (n : Nat) (w : World) (hn : n ≤ 100000) : Calls Tryz.prog 31 #[.int .i64 n] w fun e w' => e = .returned (.string (str (Idf.dec n))) ∧ Below w.heap.size w w' := by
  obtain ⟨D, hD⟩ : ∃ D, Idf.dec n = D := ⟨_, rfl⟩
  have HD := Lib.hid hD
  rw [hD]
  clear hD
  go_enter Tryz.func31, Tryz.ntmps31
  go_wp2_with fail
  go_loopg [0, 3] (0 + n) (fun gk u v wr => ∃ (k : Nat) (s : ByteArray), gk = 0 + k ∧ k ≤ 100000 ∧ u = .int .i64 k ∧ v = .string s ∧ s.size + 10 * k ≤ 2000000 ∧ D = Idf.dec k ++ bl s ∧ Below w.heap.size w wr)
  case atStart => exact ⟨n, ByteArray.empty, rfl, hn, rfl, rfl, by simp; omega, by rw [HD.out]; simp [bl], Below.refl _ _⟩
  case round =>
    obtain ⟨k, s, rfl, hk, rfl, rfl, hs, hd, hbl⟩ := hrel
    have HB := Lib.hid (And.intro hd hbl)
    have hw : w.heap.size ≤ wr.heap.size := hbl.size
    clear hd hbl
    by_cases h9 : k < 10
    · have h9i : ¬ (9 : Int) < k := by omega
      have hc : (UInt8.ofNat (48 + k)).toNat = 48 + k := Sq.u8 (by omega)
      have d1 : 48 + (k : Int) = ((UInt8.ofNat (48 + k)).toNat : Int) := by rw [hc]; omega
      have HE := Lib.hid (Idf.dec_small h9)
      have hcv : (convert 54 9 (.slice (some ⟨wr.heap.size, 0, none⟩) 1 1)).run Tryz.prog (wr.alloc (.cells #[.int .u8 (UInt8.ofNat (48 + k)).toNat] 5)) = .ok (.string (str [UInt8.ofNat (48 + k)])) (wr.alloc (.cells #[.int .u8 (UInt8.ofNat (48 + k)).toNat] 5)) := (own_laid wr [UInt8.ofNat (48 + k)] (by simp) (by simp)).str
      have hx : (str [UInt8.ofNat (48 + k)]).size = 1 := by rw [str_size]; rfl
      have hbx := bl_str [UInt8.ofNat (48 + k)]
      have HX := Lib.hid (show D = bl (str [UInt8.ofNat (48 + k)] ++ s) by rw [HB.out.1, HE.out, bl_append, hbx])
      generalize str [UInt8.ofNat (48 + k)] = X at *
      have hcat : ¬ 9223372036854775807 < X.size + s.size := by omega
      have b1 : 48 + (k : Int) < 256 := by omega
      clear hbx hc HE
      generalize UInt8.ofNat (48 + k) = c at *
      go_wp2
      go_ret
      exact ⟨by rw [HX.out, str_bl]; rfl, HB.out.2.alloc hw _⟩
    · have h9i : (9 : Int) < k := by omega
      have hc : (UInt8.ofNat (48 + k % 10)).toNat = 48 + k % 10 := Sq.u8 (by omega)
      have d1 : 48 + (k : Int) % 10 = ((UInt8.ofNat (48 + k % 10)).toNat : Int) := by rw [hc]; omega
      have t1 : (k : Int).tmod 10 = (k : Int) % 10 := Int.tmod_eq_emod_of_nonneg (by omega)
      have q1 : (k : Int).tdiv 10 = ((k / 10 : Nat) : Int) := by rw [Int.tdiv_eq_ediv_of_nonneg (by omega)]; omega
      have HE := Lib.hid (Idf.dec_big h9)
      have hcv : (convert 54 9 (.slice (some ⟨wr.heap.size, 0, none⟩) 1 1)).run Tryz.prog (wr.alloc (.cells #[.int .u8 (UInt8.ofNat (48 + k % 10)).toNat] 5)) = .ok (.string (str [UInt8.ofNat (48 + k % 10)])) (wr.alloc (.cells #[.int .u8 (UInt8.ofNat (48 + k % 10)).toNat] 5)) := (own_laid wr [UInt8.ofNat (48 + k % 10)] (by simp) (by simp)).str
      have hx : (str [UInt8.ofNat (48 + k % 10)]).size = 1 := by rw [str_size]; rfl
      have hbx := bl_str [UInt8.ofNat (48 + k % 10)]
      have HX := Lib.hid (show D = Idf.dec (k / 10) ++ bl (str [UInt8.ofNat (48 + k % 10)] ++ s) by rw [HB.out.1, HE.out, bl_append, hbx, List.append_assoc])
      have HZ := Lib.hid (show (str [UInt8.ofNat (48 + k % 10)] ++ s).size = 1 + s.size by rw [ByteArray.size_append, hx])
      generalize str [UInt8.ofNat (48 + k % 10)] = X at *
      have hcat : ¬ 9223372036854775807 < X.size + s.size := by omega
      have b1 : 48 + (k : Int) % 10 < 256 := by omega
      clear hbx hc HE
      generalize UInt8.ofNat (48 + k % 10) = c at *
      go_wp2
      go_roundg (0 + k / 10)
      case rel => exact ⟨k / 10, X ++ s, rfl, by omega, by go_num, rfl, by rw [HZ.out]; omega, HX.out, HB.out.2.alloc hw _⟩
      case measure => omega

theorem row_size (k : Int) (c : ByteArray) (hc : c.size ≤ 99999) : (Idf.row k c).size ≤ c.size + 13 := by
  have h := Idf.dec_len c.size 4 (by omega)
  have h2 := Idf.word_size k
  unfold Idf.row
  split
  · simp only [ByteArray.size_append, str_size]
    have e1 : (⟨#[32]⟩ : ByteArray).size = 1 := rfl
    have e2 : (⟨#[0]⟩ : ByteArray).size = 1 := rfl
    omega
  · exact Nat.zero_le _

set_option maxHeartbeats 2000000 in
set_option maxRecDepth 100000 in
theorem rrow_any (k : Int) (c : ByteArray) (w : World) (hc : c.size ≤ 99999) : Calls Tryz.prog 16 #[.int .i64 k, .string c] w fun e w' => e = .returned (.string (Idf.row k c)) ∧ Below w.heap.size w w' := by
  have HW := Lib.hid (fun w' => rword_any k w')
  by_cases h : 1 ≤ k ∧ k ≤ 4
  · have HE := Lib.hid (show Idf.row k c = Idf.word k ++ ⟨#[32]⟩ ++ str (Idf.dec c.size) ++ ⟨#[0]⟩ ++ c by unfold Idf.row; rw [if_pos h])
    have hws := Idf.word_some h
    have hws2 := Idf.word_size k
    have hse : (Idf.word k).toList.isEmpty = false := by rw [toList_bl, List.isEmpty_eq_false_iff]; intro e; have := bl_length (Idf.word k); rw [e] at this; simp at this; omega
    have HD := Lib.hid (fun w' => rdec_any c.size w' (by omega))
    have hds : (str (Idf.dec c.size)).size ≤ 5 := by rw [str_size]; exact Idf.dec_len c.size 4 (by omega)
    generalize str (Idf.dec c.size) = d at *
    generalize Idf.word k = x at *
    have e1 : (⟨#[32]⟩ : ByteArray).size = 1 := rfl
    have e2 : (⟨#[0]⟩ : ByteArray).size = 1 := rfl
    have k1 : ¬ 9223372036854775807 < x.size + (⟨#[32]⟩ : ByteArray).size := by omega
    have k2 : ¬ 9223372036854775807 < (x ++ ⟨#[32]⟩).size + d.size := by rw [ByteArray.size_append]; omega
    have k3 : ¬ 9223372036854775807 < (x ++ ⟨#[32]⟩ ++ d).size + (⟨#[0]⟩ : ByteArray).size := by rw [ByteArray.size_append, ByteArray.size_append]; omega
    have k4 : ¬ 9223372036854775807 < (x ++ ⟨#[32]⟩ ++ d ++ ⟨#[0]⟩).size + c.size := by rw [ByteArray.size_append, ByteArray.size_append, ByteArray.size_append]; omega
    go_enter Tryz.func16, Tryz.ntmps16
    go_wp2_with (first | (go_at_call 12; refine (HW.out _).mono ?_; rintro r w2 ⟨rfl, rfl⟩) | (go_at_call 31; refine (HD.out _).mono ?_; rintro r w3 ⟨rfl, hb3⟩))
    go_ret
    exact ⟨by rw [HE.out]; rfl, hb3⟩
  · have HE := Lib.hid (show Idf.row k c = ⟨#[]⟩ by unfold Idf.row; rw [if_neg h])
    rw [Idf.word_no h] at HW
    go_enter Tryz.func16, Tryz.ntmps16
    go_wp2_with (go_at_call 12; refine (HW.out _).mono ?_; rintro r w2 ⟨rfl, rfl⟩)
    go_ret
    exact ⟨by rw [HE.out]; rfl, Below.refl _ _⟩
end Go.Proofs.YtmbbigmnliiadaaGreatDoor.Hi
namespace Go.Proofs.YtmbbigmnliiadaaGreatDoor.Idf
open Go.Proofs.YtmbbigmnliiadaaGreatDoor.Hs Go.Proofs.YtmbbigmnliiadaaGreatDoor.Hd
def narrow (r : ByteArray) : ByteArray := ⟨(Sh.sum r.data.toList).toArray⟩
def wide (r : ByteArray) : ByteArray := ⟨(S2.sum r.data.toList).toArray⟩
def idF (sp k : Int) (c : ByteArray) : ByteArray × Int :=
  if ¬ (1 ≤ k ∧ k ≤ 4) then (⟨#[]⟩, 4) else if ¬ (sp = 1 ∨ sp = 2) then (⟨#[]⟩, 1) else if 65536 < c.size then (⟨#[]⟩, 9)
  else if sp = 2 then (wide (row k c), 0) else if Dv.scan (row k c).data.toList = true then (⟨#[]⟩, 10) else (narrow (row k c), 0)
section
variable {sp k : Int} {c : ByteArray}
theorem id_kind (h : ¬ (1 ≤ k ∧ k ≤ 4)) : idF sp k c = (⟨#[]⟩, 4) := if_pos h
theorem id_range (h : 1 ≤ k ∧ k ≤ 4) (h2 : ¬ (sp = 1 ∨ sp = 2)) : idF sp k c = (⟨#[]⟩, 1) := (if_neg (by simpa using h)).trans (if_pos h2)
theorem id_limit (h : 1 ≤ k ∧ k ≤ 4) (h2 : sp = 1 ∨ sp = 2) (h3 : 65536 < c.size) : idF sp k c = (⟨#[]⟩, 9) := (if_neg (not_not_intro h)).trans ((if_neg (not_not_intro h2)).trans (if_pos h3))
theorem id_wide (h : 1 ≤ k ∧ k ≤ 4) (h3 : ¬ 65536 < c.size) : idF 2 k c = (wide (row k c), 0) := (if_neg (not_not_intro h)).trans ((if_neg (not_not_intro (.inr rfl))).trans ((if_neg h3).trans (if_pos rfl)))
theorem id_marked (h : 1 ≤ k ∧ k ≤ 4) (h3 : ¬ 65536 < c.size) (h4 : Dv.scan (row k c).data.toList = true) : idF 1 k c = (⟨#[]⟩, 10) :=
  (if_neg (not_not_intro h)).trans ((if_neg (not_not_intro (.inl rfl))).trans ((if_neg h3).trans ((if_neg (by decide)).trans (if_pos h4))))
theorem id_narrow (h : 1 ≤ k ∧ k ≤ 4) (h3 : ¬ 65536 < c.size) (h4 : Dv.scan (row k c).data.toList = false) : idF 1 k c = (narrow (row k c), 0) :=
  (if_neg (not_not_intro h)).trans ((if_neg (not_not_intro (.inl rfl))).trans ((if_neg h3).trans ((if_neg (by decide)).trans (if_neg (by rw [h4]; decide)))))
end
end Go.Proofs.YtmbbigmnliiadaaGreatDoor.Idf
namespace Go.Proofs.YtmbbigmnliiadaaGreatDoor.Hi
open Go.RowKit Hg Hs Hd
set_option linter.unusedVariables false

/-- what Id answers -/
def idV (r : ByteArray × Int) : Value := .tuple #[.string r.1, .int .i64 r.2]
theorem id_mk {r : ByteArray × Int} {x : ByteArray} {c : Int} (h : r = (x, c)) : Ending.returned (.tuple #[.string x, .int .i64 c]) = .returned (idV r) := by rw [h]; rfl
end Go.Proofs.YtmbbigmnliiadaaGreatDoor.Hi
namespace Go.Proofs.YtmbbigmnliiadaaGreatDoor.Idf

/-- what stands ahead of the first byte m, and what stands behind it -/
theorem split_first {m : UInt8} {x y p q : List UInt8} (hx : m ∉ x) (hy : m ∉ y) (h : x ++ m :: p = y ++ m :: q) : x = y ∧ p = q := by
  induction x generalizing y with
  | nil =>
    cases y with
    | nil => injection h with _ h; exact ⟨rfl, h⟩
    | cons b y =>
      injection h with h1 _
      exact absurd (by rw [h1]; exact List.mem_cons_self) hy
  | cons a x ih =>
    cases y with
    | nil =>
      injection h with h1 _
      exact absurd (by rw [← h1]; exact List.mem_cons_self) hx
    | cons b y =>
      injection h with h1 h2
      obtain ⟨e1, e2⟩ := ih (fun hm => hx (List.mem_cons_of_mem _ hm)) (fun hm => hy (List.mem_cons_of_mem _ hm)) h2
      exact ⟨by rw [h1, e1], e2⟩
theorem dec_digits (n : Nat) : ∀ c ∈ dec n, 48 ≤ c.toNat := by
  induction n using Nat.strongRecOn with
  | _ n ih =>
    intro c hc
    by_cases h : n < 10
    · rw [dec_small h] at hc
      simp only [List.mem_cons, List.not_mem_nil, or_false] at hc
      subst hc
      rw [Sq.u8 (by omega)]
      omega
    · rw [dec_big h, List.mem_append] at hc
      rcases hc with hc | hc
      · exact ih (n / 10) (by omega) c hc
      · simp only [List.mem_cons, List.not_mem_nil, or_false] at hc
        subst hc
        rw [Sq.u8 (by omega)]
        omega
theorem word_blank {k : Int} (h : 1 ≤ k ∧ k ≤ 4) : (32 : UInt8) ∉ bl (word k) := by
  rcases kind_cases h with rfl | rfl | rfl | rfl <;> decide
theorem word_inj {k o : Int} (hk : 1 ≤ k ∧ k ≤ 4) (ho : 1 ≤ o ∧ o ≤ 4) (h : bl (word k) = bl (word o)) : k = o := by
  rcases kind_cases hk with rfl | rfl | rfl | rfl <;> rcases kind_cases ho with rfl | rfl | rfl | rfl <;> first | rfl | (exact absurd h (by decide))
theorem row_some {k : Int} (c : ByteArray) (h : 1 ≤ k ∧ k ≤ 4) : row k c = word k ++ ⟨#[32]⟩ ++ str (dec c.size) ++ ⟨#[0]⟩ ++ c := if_pos h
theorem row_none {k : Int} (c : ByteArray) (h : ¬ (1 ≤ k ∧ k ≤ 4)) : row k c = ⟨#[]⟩ := if_neg h
theorem row_bytes {k : Int} (c : ByteArray) (h : 1 ≤ k ∧ k ≤ 4) : bl (row k c) = bl (word k) ++ 32 :: (dec c.size ++ 0 :: bl c) := by
  rw [row_some c h]
  simp only [bl_append, bl_str]
  have e1 : bl ⟨#[32]⟩ = [32] := rfl
  have e2 : bl ⟨#[0]⟩ = [0] := rfl
  rw [e1, e2]
  simp
theorem bl_inj {a b : ByteArray} (h : bl a = bl b) : a = b := by rw [← str_bl a, h, str_bl]
theorem row_inj {k o : Int} {a b : ByteArray} (hk : 1 ≤ k ∧ k ≤ 4) (ho : 1 ≤ o ∧ o ≤ 4) (h : row k a = row o b) : k = o ∧ a = b := by
  have e : bl (row k a) = bl (row o b) := by rw [h]
  rw [row_bytes a hk, row_bytes b ho] at e
  obtain ⟨e1, e2⟩ := split_first (word_blank hk) (word_blank ho) e
  have z : ∀ n, (0 : UInt8) ∉ dec n := fun n hm => by
    have := dec_digits n 0 hm
    exact absurd this (by decide)
  obtain ⟨_, e3⟩ := split_first (z _) (z _) e2
  exact ⟨word_inj hk ho e1, bl_inj e3⟩
theorem row_eq {k o : Int} {a b : ByteArray} (hk : 1 ≤ k ∧ k ≤ 4) (ho : 1 ≤ o ∧ o ≤ 4) : row k a = row o b ↔ k = o ∧ a = b :=
  ⟨row_inj hk ho, fun h => by rw [h.1, h.2]⟩
/-- a row: how long it is, what it ends and begins with -/
theorem row_len {k : Int} (c : ByteArray) (h : 1 ≤ k ∧ k ≤ 4) : (row k c).size = (word k).size + 1 + (dec c.size).length + 1 + c.size := by
  have e1 : (⟨#[32]⟩ : ByteArray).size = 1 := rfl
  have e2 : (⟨#[0]⟩ : ByteArray).size = 1 := rfl
  rw [row_some c h]
  simp only [ByteArray.size_append, str_size, e1, e2]
theorem row_tail {k : Int} (c : ByteArray) (h : 1 ≤ k ∧ k ≤ 4) : (row k c).extract ((row k c).size - c.size) (row k c).size = c := by
  apply bl_inj
  rw [Hg.bl_drop, row_bytes c h]
  have e : bl (word k) ++ 32 :: (dec c.size ++ 0 :: bl c) = (bl (word k) ++ 32 :: (dec c.size ++ [0])) ++ bl c := by simp
  rw [e, List.drop_left' (by simp only [List.length_append, List.length_cons, List.length_nil, bl_length]; rw [row_len c h]; omega)]
theorem row_zero {k : Int} (c : ByteArray) (h : 1 ≤ k ∧ k ≤ 4) (hi : (row k c).size - c.size - 1 < (row k c).size) : (row k c)[(row k c).size - c.size - 1] = 0 := by
  rw [← bl_getD _ _ hi, row_bytes c h]
  have e : bl (word k) ++ 32 :: (dec c.size ++ 0 :: bl c) = (bl (word k) ++ 32 :: dec c.size) ++ 0 :: bl c := by simp
  have hl : (row k c).size - c.size - 1 = (bl (word k) ++ 32 :: dec c.size).length := by
    simp only [List.length_append, List.length_cons, bl_length]; rw [row_len c h]; omega
  rw [e, hl]
  simp [List.getD]
theorem row_head {k : Int} (c : ByteArray) (h : 1 ≤ k ∧ k ≤ 4) : (row k c).extract 0 ((word k).size + 1) = word k ++ ⟨#[32]⟩ := by
  apply bl_inj
  rw [Hg.bl_extract, List.drop_zero, row_bytes c h, bl_append]
  have e : bl (word k) ++ 32 :: (dec c.size ++ 0 :: bl c) = (bl (word k) ++ [32]) ++ (dec c.size ++ 0 :: bl c) := by simp
  rw [e, List.take_left' (by simp only [List.length_append, List.length_cons, List.length_nil, bl_length])]
  rfl
end Go.Proofs.YtmbbigmnliiadaaGreatDoor.Idf
