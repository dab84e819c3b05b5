/-
  The contract of the document's own Least.
-/
import Derived.Test.YtmblabonnioomaaT
namespace Go.Proofs.Ytmblabonnioomaa
open Go.RowKit
set_option linter.unusedVariables false

theorem M.leastN_four (l : List (List UInt8)) (b : List UInt8) (k : Nat) : 4 ≤ M.leastN l b k := by
  induction k with
  | zero => simp [M.leastN]
  | succ k ih => simp only [M.leastN]; split <;> omega

/-- none of the first k names, unlike b, begins with n digits of b -/
def Clear (ss : List ByteArray) (b : ByteArray) (n k : Nat) : Prop :=
  ∀ j, j < k → ss.getD j ByteArray.empty = b ∨ M.begB (bl (ss.getD j ByteArray.empty)) ((M.digs (bl b)).take n) = false
theorem clear_iff {ss : List ByteArray} {b : ByteArray} {n : Nat} (h4 : 4 ≤ n) (hn : n ≤ 2 * b.size) : Clear ss b n ss.length ↔ M.leastN (bls ss) (bl b) ss.length ≤ n := by
  have hn' : n ≤ 2 * (bl b).length := by rw [bl_length]; exact hn
  constructor
  · intro h
    rcases M.leastN_ex (bls ss) (bl b) ss.length with e | ⟨j, hj, hne, e⟩
    · omega
    · rw [bls_getD ss j hj] at hne e
      rcases h j hj with h | h
      · exact absurd (by rw [h]) hne
      · have hi := M.begB_take_iff (bl (ss.getD j ByteArray.empty)) (bl b) n hn'
        rcases Nat.lt_or_ge (M.alikeN (M.digs (bl (ss.getD j ByteArray.empty))) (M.digs (bl b))) n with h' | h'
        · omega
        · have := hi.2 h'
          rw [h] at this
          cases this
  · intro h j hj
    rcases Classical.em (ss.getD j ByteArray.empty = b) with e | e
    · exact .inl e
    · right
      have h1 := M.leastN_ge (bls ss) (bl b) ss.length j hj (by rw [bls_getD ss j hj]; exact fun e' => e (bl_inj e'))
      rw [bls_getD ss j hj] at h1
      rw [Bool.eq_false_iff]
      intro h2
      have := (M.begB_take_iff (bl (ss.getD j ByteArray.empty)) (bl b) n hn').1 h2
      omega
theorem clear_same {ss : List ByteArray} {b : ByteArray} {n k : Nat} {v : Bool} (h : v = true ↔ Clear ss b n k) (hk : ss.getD k ByteArray.empty = b ∨ M.begB (bl (ss.getD k ByteArray.empty)) ((M.digs (bl b)).take n) = false) : v = true ↔ Clear ss b n (k + 1) := by
  rw [h]
  constructor
  · intro hc j hj
    by_cases e : j = k
    · subst e; exact hk
    · exact hc j (by omega)
  · intro hc j hj
    exact hc j (by omega)
theorem clear_not {ss : List ByteArray} {b : ByteArray} {n k : Nat} (h1 : ss.getD k ByteArray.empty ≠ b) (h2 : M.begB (bl (ss.getD k ByteArray.empty)) ((M.digs (bl b)).take n) = true) : false = true ↔ Clear ss b n (k + 1) := by
  constructor
  · intro h; cases h
  · intro hc
    rcases hc k (by omega) with e | e
    · exact absurd e h1
    · rw [h2] at e; cases e

theorem rBegins_cut (y b : ByteArray) (n : Nat) (w : World) (hy : y.size ≤ 100000) (hb : b.size ≤ 10000) {v : Bool} (h : M.begB (bl y) ((M.digs (bl b)).take n) = v) :
    Calls Try.prog 19 #[.string y, .string ((str (M.digs (bl b))).extract 0 n)] w fun e w' => e = .returned (.bool v) ∧ Below w.heap.size w w' :=
  rBegins_val y _ w hy (by have := take_size (str (M.digs (bl b))) n; rw [str_size, M.digs_length, bl_length] at this; omega) (by rw [bl_take, bl_str]; exact h)

set_option maxHeartbeats 2000000 in
set_option maxRecDepth 100000 in
theorem rLeast_any (A : Option Addr) (c B : Nat) (ss : List ByteArray) (b : ByteArray) (w : World) (hr : Strs w B A ss) (hB : B ≤ w.heap.size) (hn : ss.length ≤ 200) (hz : ∀ i, i < ss.length → (ss.getD i ByteArray.empty).size ≤ 5000) (hb : b.size ≤ 500) :
    Calls Try.prog 25 #[.slice A ss.length c, .string b] w fun e w' => e = .returned (.int .i64 (M.least (bls ss) (bl b))) ∧ Below w.heap.size w w' := by
  have HR := Lib.hid hr
  have HZ := Lib.hid hz
  clear hr hz
  have hl4 := M.leastN_four (bls ss) (bl b) ss.length
  have hleast : M.least (bls ss) (bl b) = max 4 (min (M.leastN (bls ss) (bl b) ss.length) (2 * b.size)) := by rw [M.least, bl_length, show (bls ss).length = ss.length by simp [bls]]
  have hcl := fun n h4 h2 => clear_iff (ss := ss) (b := b) (n := n) h4 h2
  generalize M.leastN (bls ss) (bl b) ss.length = L at *
  have HL := Lib.hid hleast
  have HC := Lib.hid hcl
  clear hleast hcl
  have hsz : (str (M.digs (bl b))).size = 2 * b.size := by rw [str_size, M.digs_length, bl_length]
  go_enter Try.func25, Try.ntmps25
  go_wp2_with (go_at_call 15; refine (rDigits_any _ _ (by omega)).mono ?_; rintro e w0 ⟨rfl, hb0⟩)
  go_loopg [6] (2 * b.size + 1 - 4) (fun g s6 wr => ∃ n : Nat, 4 ≤ n ∧ n ≤ L ∧ (n ≤ 2 * b.size + 1 ∨ n = 4) ∧ g = 2 * b.size + 1 - n ∧ s6 = .int .i64 n ∧ Below w.heap.size w wr)
  case atStart => exact ⟨4, Nat.le_refl _, hl4, .inr rfl, rfl, rfl, hb0⟩
  case round =>
    obtain ⟨n, h4, hnL, hn2, rfl, rfl, hbl⟩ := hrel
    by_cases hle : n ≤ 2 * b.size
    · have l1 : (n : Int) ≤ 2 * (b.size : Int) := by omega
      go_wp2
      have HBL := Lib.hid hbl
      clear hbl hb0
      go_loopg [7, 8] ss.length (fun g s7 i wx => ∃ (k : Nat) (v : Bool), k ≤ ss.length ∧ g = ss.length - k ∧ i = .int .i64 k ∧ s7 = .bool v ∧ (v = true ↔ Clear ss b n k) ∧ Below w.heap.size w wx)
      case atStart => exact ⟨0, true, Nat.zero_le _, rfl, rfl, rfl, ⟨fun _ j hj => absurd hj (Nat.not_lt_zero _), fun _ => rfl⟩, HBL.out⟩
      case round =>
        obtain ⟨k, v, hk, rfl, rfl, rfl, hv, hbx⟩ := hrel
        have HV := Lib.hid hv
        clear hv HBL
        by_cases hlt : k < ss.length
        · obtain ⟨ad, rfl, hblk, hc0⟩ := HR.out k hlt
          have hblkw : ad.block < w.heap.size := Nat.lt_of_lt_of_le hblk hB
          have hc := hc0
          rw [← hbx.cell (p := ad.add k) (by rw [block_of_add]; exact hblkw)] at hc
          have hszx := hbx.size
          clear hc0
          have hzk := HZ.out k hlt
          generalize hy : ss.getD k ByteArray.empty = y at *
          have HY := Lib.hid hy
          clear hy
          have hk1 : (k : Int) < ss.length := by omega
          have hk0 : (0 : Int) ≤ k := by omega
          have hn0 : (0 : Int) ≤ n := by omega
          have hnn : n ≤ 2 * b.size := hle
          by_cases hyb : y = b
          · have he : (y.toList == b.toList) = true := str_beq hyb
            have HE := Lib.hid hyb
            clear hyb
            go_wp2_with fail
            go_quiet (fail)
            go_wp2
            go_roundg (ss.length - (k + 1))
            case rel => exact ⟨k + 1, v, by omega, rfl, by go_num, rfl, clear_same HV.out (.inl (by rw [HY.out]; exact HE.out)), hbx.trans (Drawn.below ⟨_, rfl⟩ _)⟩
            case measure => omega
          · have he : (y.toList == b.toList) = false := str_bne hyb
            have HE := Lib.hid hyb
            clear hyb
            cases hbg : M.begB (bl y) ((M.digs (bl b)).take n)
            · have HG := Lib.hid hbg
              go_wp2_with fail
              go_region_held3 (fun w' => w'.cell? (ad.add k) = some (.string y)) (first | go_keep | (rw [hb1.cell (by rw [block_of_add]; exact Nat.lt_of_lt_of_le hblkw hszx)]; exact hc))
                (first | (go_at_call 19; refine (rBegins_cut _ _ _ _ (by omega) (by omega) hbg).mono ?_; rintro e w1 ⟨rfl, hb1⟩))
              go_wp2
              go_roundg (ss.length - (k + 1))
              case rel => exact ⟨k + 1, v, by omega, rfl, by go_num, rfl, clear_same HV.out (.inr (by rw [HY.out]; exact HG.out)), hbx.drew.trans (hb1.mono hszx)⟩
              case measure => omega
            · have HG := Lib.hid hbg
              go_wp2_with fail
              go_region_held3 (fun w' => w'.cell? (ad.add k) = some (.string y)) (first | go_keep | (rw [hb1.cell (by rw [block_of_add]; exact Nat.lt_of_lt_of_le hblkw hszx)]; exact hc))
                (first | (go_at_call 19; refine (rBegins_cut _ _ _ _ (by omega) (by omega) hbg).mono ?_; rintro e w1 ⟨rfl, hb1⟩))
              go_wp2
              go_roundg (ss.length - (k + 1))
              case rel => exact ⟨k + 1, false, by omega, rfl, by go_num, rfl, clear_not (by rw [HY.out]; exact HE.out) (by rw [HY.out]; exact HG.out), hbx.drew.trans (hb1.mono hszx)⟩
              case measure => omega
        · obtain rfl : k = ss.length := by omega
          have hci := HC.out n h4 hle
          cases v
          · have hnl : ¬ L ≤ n := fun h => by have := HV.out.2 (hci.2 h); cases this
            clear hci
            go_wp2
            go_roundg (2 * b.size + 1 - (n + 1))
            case rel => exact ⟨n + 1, by omega, by omega, .inl (by omega), rfl, by go_num, hbx⟩
            case measure => omega
          · have hln : L ≤ n := hci.1 (HV.out.1 rfl)
            clear hci
            go_wp2
            go_ret
            exact ⟨ret_int (by rw [HL.out]; omega), hbx⟩
    · have l1 : ¬ (n : Int) ≤ 2 * (b.size : Int) := by omega
      by_cases h2 : 2 * b.size < 4
      · have l2 : decide (2 * (b.size : Int) < 4) = true := by simp; omega
        go_wp2
        go_ret
        exact ⟨ret_int (by rw [HL.out]; omega), hbl⟩
      · have l2 : decide (2 * (b.size : Int) < 4) = false := by simp; omega
        go_wp2
        go_ret
        exact ⟨ret_int (by rw [HL.out]; omega), hbl⟩
end Go.Proofs.Ytmblabonnioomaa
