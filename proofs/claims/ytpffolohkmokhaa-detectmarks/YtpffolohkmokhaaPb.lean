/-
  The contract of the program's Expand (package sha1): the eighty words of a block.
-/
import Derived.Test.YtpffolohkmokhaaPa
namespace Go.Proofs.Ytpffolohkmokhaa.Hp
open Go.RowKit Hs
set_option linter.unusedVariables false
attribute [local go_sem] t_and t_or t_xor t_not t_add t_sub t_add_wrap t_sub_wrap

theorem zv30 (w : World) : (zeroValue 32).run Try.prog w = .ok (.agg (ws [])) w := by kernel_rfl
theorem row_ws (w : World) (l : List UInt32) : (w.alloc (.cells (ws l) 32)).rowIs w.heap.size 32 80 (fun j => .int .u32 (tn (l.getD j 0))) := by
  have h := World.rowIs_alloc w (ws l) 32 (fun j => .int .u32 (tn (l.getD j 0))) (fun i hi => by rw [ws_size] at hi; simp [ws, hi])
  rwa [ws_size] at h
/-- a row of eighty words, its cells laid whole -/
theorem ws_row {w : World} {g : Nat} {l : List UInt32} (h : w.rowIs g 32 80 (fun j => .int .u32 (tn (l.getD j 0)))) : w.heap[g]? = some (.cells (ws l) 32 (0, 0)) := by
  obtain ⟨c, hb, hn, hc⟩ := h
  rw [hb]
  congr 2
  apply Array.ext_getElem?
  intro i
  by_cases hi : i < 80
  · rw [hc i hi]; simp [ws, hi]
  · rw [Array.getElem?_eq_none (by omega), Array.getElem?_eq_none (by rw [ws_size]; omega)]

/-- a word is put behind the t that are there, or in the place of the last -/
theorem row_put {w : World} {g t : Nat} {l : List UInt32} {x y : UInt32} (hl : l.length = t) (h : w.rowIs g 32 80 (fun j => .int .u32 (tn ((l ++ [x]).getD j 0)))) :
    (w.setCell ⟨g, t, none⟩ (.int .u32 (tn y))).rowIs g 32 80 (fun j => .int .u32 (tn ((l ++ [y]).getD j 0))) := by
  refine (h.set t _).congr fun j _ => ?_
  simp only [getD_snoc _ _ _ hl]
  split <;> rfl
theorem row_none {w : World} {g t : Nat} {l : List UInt32} (hl : l.length = t) (h : w.rowIs g 32 80 (fun j => .int .u32 (tn (l.getD j 0)))) :
    w.rowIs g 32 80 (fun j => .int .u32 (tn ((l ++ [0]).getD j 0))) :=
  h.congr fun j _ => by
    rw [getD_snoc _ _ _ hl]
    split
    · rename_i e; rw [List.getD_eq_getElem?_getD, List.getElem?_eq_none (by omega)]; rfl
    · rfl

theorem info30 : (Try.prog.info? 32).map (·.size) = some 80 := by kernel_rfl

/-- the state of Expand: the result's row is empty yet, the words' row holds l -/
structure Ex (w wr : World) (l : List UInt32) : Prop where
  below : Below w.heap.size w wr
  size : w.heap.size + 1 < wr.heap.size
  res : wr.rowIs w.heap.size 32 80 (fun j => .int .u32 (tn (([] : List UInt32).getD j 0)))
  row : wr.rowIs (w.heap.size + 1) 32 80 (fun j => .int .u32 (tn (l.getD j 0)))
section
variable {w wr : World} {l : List UInt32} {t : Nat} {x y : UInt32}
theorem Ex.start (w : World) : Ex w ((w.alloc (.cells (ws []) 32)).alloc (.cells (ws []) 32)) [] := by
  refine ⟨((Below.refl _ w).alloc (Nat.le_refl _) _).alloc (by simp) _, by simp, (row_ws w []).alloc _, ?_⟩
  have := row_ws (w.alloc (.cells (ws []) 32)) []
  simpa using this
theorem Ex.begin_ (h : Ex w wr l) (hl : l.length = t) : Ex w wr (l ++ [0]) := ⟨h.below, h.size, h.res, row_none hl h.row⟩
theorem Ex.put (h : Ex w wr (l ++ [x])) (hl : l.length = t) (y : UInt32) : Ex w (wr.setCell ⟨w.heap.size + 1, t, none⟩ (.int .u32 (tn y))) (l ++ [y]) :=
  ⟨h.below.setCell (Nat.le_succ _) _, by simpa using h.size, h.res.setOther (by simp) _, row_put hl h.row⟩
theorem Ex.drawn (h : Ex w wr l) (n : Nat) : Ex w (wr.drewN n) l := ⟨below_drewN h.below n, h.size, h.res, h.row⟩
theorem Ex.drew (h : Ex w wr l) : Ex w wr.drew l := ⟨h.below.drew, h.size, h.res, h.row⟩
theorem Ex.at_ (h : Ex w wr l) {j : Nat} (hj : j < 80) : wr.cell? ⟨w.heap.size + 1, j, none⟩ = some (.int .u32 (tn (l.getD j 0))) := h.row.cell hj
theorem Ex.cell (h : Ex w wr (l ++ [x])) (hl : l.length = t) (ht : t < 80) : wr.cell? ⟨w.heap.size + 1, t, none⟩ = some (.int .u32 (tn x)) := by
  rw [h.row.cell ht, getD_snoc _ _ _ hl, if_pos rfl]
end

/-! ### words out of the bytes so far -/
theorem words16_getD (l : List UInt8) (j : Nat) : (Sh.wordsTo l 16).getD j 0 = if j < 16 then Sh.word l j else 0 := by
  have h : ∀ n, n ≤ 16 → ∀ j, (Sh.wordsTo l n).getD j 0 = if j < n then Sh.word l j else 0 := by
    intro n
    induction n with
    | zero => intro _ j; simp [Sh.wordsTo]
    | succ n ih =>
      intro hn j
      rw [Sh.wordsTo, if_pos (by omega), getD_snoc _ _ _ (Sh.wordsTo_length l n), ih (by omega)]
      by_cases e : j = n
      · subst e; simp
      · rw [if_neg e]
        by_cases h1 : j < n
        · rw [if_pos h1, if_pos (by omega)]
        · rw [if_neg h1, if_neg (by omega)]
  exact h 16 (Nat.le_refl _) j
theorem byteOr_take (l : List UInt8) (i k : Nat) : Sh.byteOr (l.take i) k = if k < i then Sh.byteOr l k else 0 := by
  unfold Sh.byteOr
  by_cases h : k < i
  · rw [if_pos h]; simp [List.getD, h]
  · rw [if_neg h, List.getD_eq_getElem?_getD, List.getElem?_eq_none (by simp; omega)]; rfl
theorem word_take_far (l : List UInt8) (i j : Nat) (h : j ≠ i / 4) : Sh.word (l.take (i + 1)) j = Sh.word (l.take i) j := by
  have hb : ∀ k, k / 4 = j → Sh.byteOr (l.take (i + 1)) k = Sh.byteOr (l.take i) k := fun k hk => by
    rw [byteOr_take, byteOr_take]
    by_cases h1 : k < i
    · rw [if_pos h1, if_pos (by omega)]
    · rw [if_neg h1, if_neg (by omega)]
  unfold Sh.word
  rw [hb (4 * j) (by omega), hb (4 * j + 1) (by omega), hb (4 * j + 2) (by omega), hb (4 * j + 3) (by omega)]
theorem word_take64 (l : List UInt8) (n j : Nat) (hn : 64 ≤ n ∨ l.length ≤ n) (h : j < 16) : Sh.word (l.take n) j = Sh.word l j := by
  have hb : ∀ k, k < 64 → Sh.byteOr (l.take n) k = Sh.byteOr l k := fun k hk => by
    rcases hn with hn | hn
    · rw [byteOr_take, if_pos (by omega)]
    · rw [List.take_of_length_le hn]
  unfold Sh.word
  rw [hb (4 * j) (by omega), hb (4 * j + 1) (by omega), hb (4 * j + 2) (by omega), hb (4 * j + 3) (by omega)]
theorem wordsTo_take64 (l : List UInt8) (n : Nat) (hn : 64 ≤ n ∨ l.length ≤ n) (t : Nat) : Sh.wordsTo (l.take n) t = Sh.wordsTo l t := by
  induction t with
  | zero => rfl
  | succ t ih =>
    rw [Sh.wordsTo, Sh.wordsTo, ih]
    by_cases h : t < 16
    · rw [if_pos h, if_pos h, word_take64 l n t hn h]
    · rw [if_neg h, if_neg h]
/-- a byte more, or'ed into its place -/
theorem or_add (A b s : Nat) (hb : b < 256) : A * 256 * 2 ^ s ||| b * 2 ^ s = (A * 256 + b) * 2 ^ s := by
  have h := Nat.shiftLeft_add_eq_or_of_lt (i := 8) (b := b) (by omega) A
  have h2 : (A <<< 8 ||| b) <<< s = (A <<< 8) <<< s ||| b <<< s := Nat.shiftLeft_or_distrib ..
  rw [← h] at h2
  simp only [Nat.shiftLeft_eq] at h2
  exact h2.symm
theorem word_more (l : List UInt8) (q r : Nat) (hr : r < 4) (hl : 4 * q + r < l.length) :
    Sh.word (l.take (4 * q + r + 1)) q = Sh.word (l.take (4 * q + r)) q ||| UInt32.ofNat ((l.getD (4 * q + r) 0).toNat * 2 ^ (24 - 8 * r)) := by
  have h256 : ∀ k, (l.getD k 0).toNat < 256 := fun k => UInt8.toNat_lt _
  have e : ∀ k, (Sh.byteOr l k).toNat = (l.getD k 0).toNat := fun k => by
    rw [Sh.byteOr, UInt32.toNat_ofNat', Nat.mod_eq_of_lt]; have := h256 k; omega
  have hn : ∀ x y : UInt32, x.toNat = y.toNat → x = y := fun x y h => UInt32.toNat_inj.1 h
  have c0 := h256 (4 * q); have c1 := h256 (4 * q + 1); have c2 := h256 (4 * q + 2); have c3 := h256 (4 * q + 3)
  apply hn
  rw [UInt32.toNat_or]
  unfold Sh.word
  simp only [byteOr_take]
  generalize hB0 : (l.getD (4 * q) 0).toNat = b0 at *
  generalize hB1 : (l.getD (4 * q + 1) 0).toNat = b1 at *
  generalize hB2 : (l.getD (4 * q + 2) 0).toNat = b2 at *
  generalize hB3 : (l.getD (4 * q + 3) 0).toNat = b3 at *
  rcases (by omega : r = 0 ∨ r = 1 ∨ r = 2 ∨ r = 3) with rfl | rfl | rfl | rfl
  · rw [if_pos (by omega), if_neg (by omega), if_neg (by omega), if_neg (by omega), if_neg (by omega), if_neg (by omega), if_neg (by omega), if_neg (by omega), show (2 : Nat) ^ (24 - 8 * 0) = 16777216 by decide]
    simp only [UInt32.toNat_add, UInt32.toNat_mul, e, UInt32.toNat_ofNat', UInt32.reduceToNat, Nat.add_zero, hB0]
    have key : ∀ X Y Z : Nat, X = b0 * 16777216 → Y = 0 → Z = b0 * 16777216 → X = Y ||| Z := by rintro _ _ _ rfl rfl rfl; simp
    apply key <;> omega
  · rw [if_pos (by omega), if_pos (by omega), if_neg (by omega), if_neg (by omega), if_pos (by omega), if_neg (by omega), if_neg (by omega), if_neg (by omega), show (2 : Nat) ^ (24 - 8 * 1) = 65536 by decide]
    have h := or_add b0 b1 16 c1
    rw [show (2 : Nat) ^ 16 = 65536 by decide] at h
    simp only [UInt32.toNat_add, UInt32.toNat_mul, e, UInt32.toNat_ofNat', UInt32.reduceToNat, Nat.add_zero, hB0, hB1]
    have key : ∀ X Y Z : Nat, X = (b0 * 256 + b1) * 65536 → Y = b0 * 256 * 65536 → Z = b1 * 65536 → X = Y ||| Z := by rintro _ _ _ rfl rfl rfl; exact h.symm
    apply key <;> omega
  · rw [if_pos (by omega), if_pos (by omega), if_pos (by omega), if_neg (by omega), if_pos (by omega), if_pos (by omega), if_neg (by omega), if_neg (by omega), show (2 : Nat) ^ (24 - 8 * 2) = 256 by decide]
    have h := or_add (b0 * 256 + b1) b2 8 c2
    rw [show (2 : Nat) ^ 8 = 256 by decide] at h
    simp only [UInt32.toNat_add, UInt32.toNat_mul, e, UInt32.toNat_ofNat', UInt32.reduceToNat, Nat.add_zero, hB0, hB1, hB2]
    have key : ∀ X Y Z : Nat, X = ((b0 * 256 + b1) * 256 + b2) * 256 → Y = (b0 * 256 + b1) * 256 * 256 → Z = b2 * 256 → X = Y ||| Z := by rintro _ _ _ rfl rfl rfl; exact h.symm
    apply key <;> omega
  · rw [if_pos (by omega), if_pos (by omega), if_pos (by omega), if_pos (by omega), if_pos (by omega), if_pos (by omega), if_pos (by omega), if_neg (by omega), show (2 : Nat) ^ (24 - 8 * 3) = 1 by decide]
    have h := or_add ((b0 * 256 + b1) * 256 + b2) b3 0 c3
    rw [show (2 : Nat) ^ 0 = 1 by decide] at h
    simp only [UInt32.toNat_add, UInt32.toNat_mul, e, UInt32.toNat_ofNat', UInt32.reduceToNat, Nat.add_zero, hB0, hB1, hB2, hB3]
    have key : ∀ X Y Z : Nat, X = (((b0 * 256 + b1) * 256 + b2) * 256 + b3) * 1 → Y = ((b0 * 256 + b1) * 256 + b2) * 256 * 1 → Z = b3 * 1 → X = Y ||| Z := by rintro _ _ _ rfl rfl rfl; exact h.symm
    apply key <;> omega

theorem Ex.more {w wr : World} {l : List UInt8} {q r : Nat} (h : Ex w wr (Sh.wordsTo (l.take (4 * q + r)) 16)) (hr : r < 4) (hq : q < 16) (hl : 4 * q + r < l.length) :
    Ex w (wr.setCell ⟨w.heap.size + 1, q, none⟩ (.int .u32 (tn (Sh.word (l.take (4 * q + r)) q ||| UInt32.ofNat ((l.getD (4 * q + r) 0).toNat * 2 ^ (24 - 8 * r)))))) (Sh.wordsTo (l.take (4 * q + r + 1)) 16) := by
  refine ⟨h.below.setCell (Nat.le_succ _) _, by simpa using h.size, h.res.setOther (by simp) _, ?_⟩
  refine (h.row.set q _).congr fun j _ => ?_
  rw [words16_getD, words16_getD]
  by_cases e : j = q
  · subst e
    rw [if_pos rfl, if_pos hq, word_more l j r hr hl]
  · rw [if_neg e, word_take_far l (4 * q + r) j (by omega)]
theorem Ex.word {w wr : World} {l : List UInt8} {q : Nat} (h : Ex w wr (Sh.wordsTo l 16)) (hq : q < 16) : wr.cell? ⟨w.heap.size + 1, q, none⟩ = some (.int .u32 (tn (Sh.word l q))) := by
  rw [h.at_ (by omega), words16_getD, if_pos hq]

set_option maxHeartbeats 2000000 in
set_option maxRecDepth 100000 in
theorem expand_any (s : ByteArray) (w : World) (hs : s.size ≤ 100000) :
    Calls Try.prog 15 #[.string s] w fun e w' => e = .returned (.agg (ws (Sh.words s.data.toList))) ∧ Below w.heap.size w w' := by
  have hz := zv30
  have hst : Ex w ((w.alloc (.cells (ws []) 32)).alloc (.cells (ws []) 32)) (Sh.wordsTo (s.data.toList.take 0) 16) := by
    have h := Ex.start w
    refine ⟨h.below, h.size, h.res, h.row.congr fun j _ => ?_⟩
    rw [words16_getD]
    simp [Sh.word, Sh.byteOr]
  have HST := Lib.hid hst
  clear hst
  obtain ⟨M, hM⟩ : ∃ M, M = min s.size 64 := ⟨_, rfl⟩
  have hmin : ∀ (ts : Array TypeId) (t : TypeId) (W : World), (Builtin.min_ ts t #[.int .i64 (s.size : Int), .int .i64 64]).run Try.prog W = .ok (.int .i64 (M : Int)) W := fun ts t W => by
    rw [run_min_int2]
    congr 2
    split <;> omega
  have hM64 : M ≤ 64 := by omega
  have hMs : M ≤ s.size := by omega
  have HMM := Lib.hid hM
  clear hM
  go_enter Try.func15, Try.ntmps15
  go_wp2
  clear hz hmin
  go_loopg [9] M (fun g i wr => ∃ k : Nat, k ≤ M ∧ g = M - k ∧ i = .int .i64 k ∧ Ex w wr (Sh.wordsTo (s.data.toList.take k) 16))
  case atStart => exact ⟨0, Nat.zero_le _, rfl, rfl, HST.out⟩
  case round =>
    obtain ⟨k, hk, rfl, rfl, hex⟩ := hrel
    clear HST
    by_cases hlt : k < M
    · have h1 : (k : Int) < M := by omega
      obtain ⟨q, r, hr, rfl⟩ : ∃ q r, r < 4 ∧ k = 4 * q + r := ⟨k / 4, k % 4, Nat.mod_lt _ (by omega), by omega⟩
      have hq : q < 16 := by omega
      have hc := hex.word hq
      have hf := hex.row.frozen q
      have hks : 4 * q + r < s.data.toList.length := by simp; omega
      have hmore := hex.more hr hq hks
      generalize Sh.word (s.data.toList.take (4 * q + r)) q = X at *
      have HM := Lib.hid hmore
      clear hmore hex
      have wq : IntKind.i64.wrap (q : Int) = q := IntWalk.i64_in _ (by omega)
      have hq0 : (0 : Int) ≤ q := by omega
      have hq80 : (q : Int) < 80 := by omega
      have hqn : ((q : Int)).toNat = q := by omega
      have hks2 : 4 * q + r < s.size := by simpa using hks
      have hyy : (s[4 * q + r].toNat : Int) = ((s.data.toList.getD (4 * q + r) 0).toNat : Int) := by rw [List.getD_eq_getElem?_getD, List.getElem?_eq_getElem hks]; rfl
      have hy256 : (s.data.toList.getD (4 * q + r) 0).toNat < 256 := UInt8.toNat_lt _
      generalize (s.data.toList.getD (4 * q + r) 0).toNat = y at *
      rcases (by omega : r = 0 ∨ r = 1 ∨ r = 2 ∨ r = 3) with rfl | rfl | rfl | rfl
      · generalize hk4 : 4 * q + 0 = k at *
        have hq4 : (k : Int).tdiv 4 = q := by rw [Int.tdiv_eq_ediv_of_nonneg (by omega)]; omega
        have hr4 : (k : Int).tmod 4 = 0 := by rw [Int.tmod_eq_emod_of_nonneg (by omega)]; omega
        have hsh : (y : Int) * 16777216 = tn (UInt32.ofNat (y * 2 ^ (24 - 8 * 0))) := by rw [tn_ofNat (by omega)]; omega
        have HSH := Lib.hid hsh
        clear hsh
        go_wp2_with fail
        go_region
        go_wp2
        go_roundg (M - (k + 1))
        case rel =>
          refine ⟨k + 1, by omega, rfl, by go_num, ?_⟩
          have h := HM.out.drew
          rw [← t_or, ← HSH.out] at h
          skip
          exact h
        case measure => omega
      · generalize hk4 : 4 * q + 1 = k at *
        have hq4 : (k : Int).tdiv 4 = q := by rw [Int.tdiv_eq_ediv_of_nonneg (by omega)]; omega
        have hr4 : (k : Int).tmod 4 = 1 := by rw [Int.tmod_eq_emod_of_nonneg (by omega)]; omega
        have hsh : (y : Int) * 65536 = tn (UInt32.ofNat (y * 2 ^ (24 - 8 * 1))) := by rw [tn_ofNat (by omega)]; omega
        have HSH := Lib.hid hsh
        clear hsh
        go_wp2_with fail
        go_region
        go_wp2
        go_roundg (M - (k + 1))
        case rel =>
          refine ⟨k + 1, by omega, rfl, by go_num, ?_⟩
          have h := HM.out.drew
          rw [← t_or, ← HSH.out] at h
          skip
          exact h
        case measure => omega
      · generalize hk4 : 4 * q + 2 = k at *
        have hq4 : (k : Int).tdiv 4 = q := by rw [Int.tdiv_eq_ediv_of_nonneg (by omega)]; omega
        have hr4 : (k : Int).tmod 4 = 2 := by rw [Int.tmod_eq_emod_of_nonneg (by omega)]; omega
        have hsh : (y : Int) * 256 = tn (UInt32.ofNat (y * 2 ^ (24 - 8 * 2))) := by rw [tn_ofNat (by omega)]; omega
        have HSH := Lib.hid hsh
        clear hsh
        go_wp2_with fail
        go_region
        go_wp2
        go_roundg (M - (k + 1))
        case rel =>
          refine ⟨k + 1, by omega, rfl, by go_num, ?_⟩
          have h := HM.out.drew
          rw [← t_or, ← HSH.out] at h
          skip
          exact h
        case measure => omega
      · generalize hk4 : 4 * q + 3 = k at *
        have hq4 : (k : Int).tdiv 4 = q := by rw [Int.tdiv_eq_ediv_of_nonneg (by omega)]; omega
        have hr4 : (k : Int).tmod 4 = 3 := by rw [Int.tmod_eq_emod_of_nonneg (by omega)]; omega
        have hsh : (y : Int) * 1 = tn (UInt32.ofNat (y * 2 ^ (24 - 8 * 3))) := by rw [tn_ofNat (by omega)]; omega
        have HSH := Lib.hid hsh
        clear hsh
        go_wp2_with fail
        go_region
        go_wp2
        go_roundg (M - (k + 1))
        case rel =>
          refine ⟨k + 1, by omega, rfl, by go_num, ?_⟩
          have h := HM.out.drew
          rw [← t_or, ← HSH.out] at h
          rw [Int.mul_one] at h
          exact h
        case measure => omega
    · obtain rfl : k = M := by omega
      have h1 : ¬ ((k : Int) < (k : Int)) := by omega
      have hall : Sh.wordsTo (s.data.toList.take k) 16 = Sh.wordsTo s.data.toList 16 := wordsTo_take64 _ _ (by have := HMM.out; simp; omega) _
      rw [hall] at hex
      have HE := Lib.hid hex
      clear hex
      go_wp2
      go_loopg [5] 64 (fun g i wx => ∃ t : Nat, 16 ≤ t ∧ t ≤ 80 ∧ g = 80 - t ∧ i = .int .i64 t ∧ Ex w wx (Sh.wordsTo s.data.toList t))
      case atStart => exact ⟨16, Nat.le_refl _, by omega, rfl, rfl, HE.out⟩
      case round =>
        obtain ⟨t, ht16, ht80, rfl, rfl, hex⟩ := hrel
        clear HE
        by_cases hlt : t < 80
        · have h1 : (t : Int) < 80 := by omega
          have hlen := Sh.wordsTo_length s.data.toList t
          have hnx := wordsTo_high s.data.toList t (by omega)
          generalize Sh.wordsTo s.data.toList t = L at *
          have HL := Lib.hid hlen
          have HNX := Lib.hid hnx
          clear hlen hnx
          have a3 : (0 : Int) ≤ (t : Int) - 3 := by omega
          have b3 : (3 : Int) ≤ (t : Int) := by omega
          have d3 : (t : Int) - 3 < 80 := by omega
          have a8 : (0 : Int) ≤ (t : Int) - 8 := by omega
          have b8 : (8 : Int) ≤ (t : Int) := by omega
          have d8 : (t : Int) - 8 < 80 := by omega
          have a14 : (0 : Int) ≤ (t : Int) - 14 := by omega
          have b14 : (14 : Int) ≤ (t : Int) := by omega
          have d14 : (t : Int) - 14 < 80 := by omega
          have a16 : (0 : Int) ≤ (t : Int) - 16 := by omega
          have b16 : (16 : Int) ≤ (t : Int) := by omega
          have d16 : (t : Int) - 16 < 80 := by omega
          have n3 : ((t : Int) - 3).toNat = t - 3 := by omega
          have n8 : ((t : Int) - 8).toNat = t - 8 := by omega
          have n14 : ((t : Int) - 14).toNat = t - 14 := by omega
          have n16 : ((t : Int) - 16).toNat = t - 16 := by omega
          have w3 : IntKind.i64.wrap ((t : Int) - 3) = (t : Int) - 3 := IntWalk.i64_in _ (by omega)
          have w8 : IntKind.i64.wrap ((t : Int) - 8) = (t : Int) - 8 := IntWalk.i64_in _ (by omega)
          have w14 : IntKind.i64.wrap ((t : Int) - 14) = (t : Int) - 14 := IntWalk.i64_in _ (by omega)
          have w16 : IntKind.i64.wrap ((t : Int) - 16) = (t : Int) - 16 := IntWalk.i64_in _ (by omega)
          have c3 := hex.at_ (j := t - 3) (by omega)
          have c8 := hex.at_ (j := t - 8) (by omega)
          have c14 := hex.at_ (j := t - 14) (by omega)
          have c16 := hex.at_ (j := t - 16) (by omega)
          have ct := (hex.begin_ HL.out).cell HL.out hlt
          have cf := hex.row.frozen t
          have HX := Lib.hid (hex.begin_ HL.out)
          clear hex
          generalize L.getD (t - 3) 0 = x3 at *
          generalize L.getD (t - 8) 0 = x8 at *
          generalize L.getD (t - 14) 0 = x14 at *
          generalize L.getD (t - 16) 0 = x16 at *
          have hk3 : ∀ v, (wr.setCell ⟨w.heap.size + 1, t, none⟩ v).cell? ⟨w.heap.size + 1, t - 3, none⟩ = some (.int .u32 (tn x3)) := fun v => by rw [World.cell?_setCell_other _ _ _ _ (fun e => by injection e with _ e; omega)]; exact c3
          have hk8 : ∀ v, (wr.setCell ⟨w.heap.size + 1, t, none⟩ v).cell? ⟨w.heap.size + 1, t - 8, none⟩ = some (.int .u32 (tn x8)) := fun v => by rw [World.cell?_setCell_other _ _ _ _ (fun e => by injection e with _ e; omega)]; exact c8
          have hk14 : ∀ v, (wr.setCell ⟨w.heap.size + 1, t, none⟩ v).cell? ⟨w.heap.size + 1, t - 14, none⟩ = some (.int .u32 (tn x14)) := fun v => by rw [World.cell?_setCell_other _ _ _ _ (fun e => by injection e with _ e; omega)]; exact c14
          have hk16 : ∀ v, (wr.setCell ⟨w.heap.size + 1, t, none⟩ v).cell? ⟨w.heap.size + 1, t - 16, none⟩ = some (.int .u32 (tn x16)) := fun v => by rw [World.cell?_setCell_other _ _ _ _ (fun e => by injection e with _ e; omega)]; exact c16
          go_wp2_with fail
          go_region_held3 (fun w' => w'.cell? ⟨w.heap.size + 1, t - 3, none⟩ = some (.int .u32 (tn x3)) ∧ w'.cell? ⟨w.heap.size + 1, t - 8, none⟩ = some (.int .u32 (tn x8)) ∧ w'.cell? ⟨w.heap.size + 1, t - 14, none⟩ = some (.int .u32 (tn x14)) ∧ w'.cell? ⟨w.heap.size + 1, t - 16, none⟩ = some (.int .u32 (tn x16))) (go_keep)
            (first | (go_at_call 22; refine (rotl1 _ _).mono ?_; rintro e w' ⟨rfl, rfl⟩))
          go_wp2
          go_roundg (80 - (t + 1))
          case rel => exact ⟨t + 1, by omega, by omega, rfl, by go_num, by rw [HNX.out]; exact (HX.out.put HL.out _).drew⟩
          case measure => omega
        · obtain rfl : t = 80 := by omega
          have hw : wr.heap[w.heap.size + 1]? = some (.cells (ws (Sh.words s.data.toList)) 32 (0, 0)) := ws_row hex.row
          have hr : wr.heap[w.heap.size]? = some (.cells (ws []) 32 (0, 0)) := ws_row hex.res
          have hbl := hex.below
          clear hex
          generalize hW : ws (Sh.words s.data.toList) = W at *
          have hWs : W.size = 80 := by rw [← hW]; exact ws_size _
          have hW1 : W.all (·.oneCell') = true := by rw [← hW]; simp [ws, Value.oneCell']
          have HW := Lib.hid hW
          have HS := Lib.hid hWs
          clear hW hWs
          have i30 : (Try.prog.info? 32).map (·.size) = some W.size := by rw [HS.out]; exact info30
          have HI := Lib.hid i30
          have HR := Lib.hid hr
          have HH := Lib.hid hw
          clear i30 hr hw
          go_wp2_with (first
            | (with_reducible refine wpList_load_row rfl 32 (.tmp 3) rfl (w.heap.size + 1) rfl 32 W (0, 0) _ HH.out Try.underlying32 rfl HI.out ?_)
            | (with_reducible refine wpList_store_row rfl 32 (.tmp 2) (.tmp 54) rfl w.heap.size W rfl rfl 32 (ws []) HR.out HI.out (by rw [ws_size, HS.out]) hW1 ?_))
          refine bodyPost_ret (results_cell_row Try.results15 _ _ w.heap.size 32 W (0, 0) _ rfl (setRow_heap _ _ _ _ _ _ HR.out) Try.underlying32 rfl HI.out) rfl ⟨by rw [HW.out], ?_⟩
          exact below_setRow hbl (Nat.le_refl _) _
end Go.Proofs.Ytpffolohkmokhaa.Hp
