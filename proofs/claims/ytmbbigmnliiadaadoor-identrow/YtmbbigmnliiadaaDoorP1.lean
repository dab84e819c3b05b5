/-
  Contracts of the program's First, mixed, Step and Back (package sha1), and of the library's RotateLeft32 at the numbers that they hand it.
  The contract of the program's Expand (package sha1): the eighty words of a block.
  The contract of the program's Press (package sha1): the chain behind a block.
  A state of package sha1 as it lies in memory: the chain behind the whole blocks, the bytes behind them, how many bytes in all; contracts of New and Copy.
  What a part more makes of a state of package sha1: lists, and the state between two steps of take.
  The contract of the program's take (package sha1): a part more.
-/
import Derived.Test.YtmbbigmnliiadaaDoorH1
import Derived.StillTailTactics
import Derived.Lib.BufferWrite
import Derived.Deep.DeepCutAuto
import Derived.Deep.CutBlock
namespace Go.Proofs.YtmbbigmnliiadaaDoor.Hp
open Go.RowKit Hs
set_option linter.unusedVariables false
attribute [local go_sem] t_and t_or t_xor t_not t_add t_sub t_add_wrap t_sub_wrap

theorem flip_ {P : Program} {f : FuncId} {args : Array Value} {w : World} {v : Value} (h : Calls P f args w fun e w' => e = .returned v ∧ w = w') : Calls P f args w fun e w' => e = .returned v ∧ w' = w :=
  h.mono fun _ _ ⟨he, hw⟩ => ⟨he, hw.symm⟩

theorem rotl1 (x : UInt32) (w : World) : Calls Tryd.prog 66 #[.int .u32 (tn x), .int .i64 1] w fun e w' => e = .returned (.int .u32 (tn (Sh.rot x 1))) ∧ w = w' := by
  have hx := tn_lt x
  have hx0 := tn_nonneg x
  have hs : tn x * 2 % 4294967296 = tn (x <<< UInt32.ofNat 1) := t_shl x 1 (by omega)
  have hr : tn x / 2147483648 = tn (x >>> UInt32.ofNat 31) := t_shr x 31 (by omega)
  have hb : bits .and .u64 1 31 = 1 := by decide +kernel
  go_enter Tryd.func66, Tryd.ntmps66
  go_wp2
  go_ret
  exact ⟨rfl, rfl⟩
theorem rotl5 (x : UInt32) (w : World) : Calls Tryd.prog 66 #[.int .u32 (tn x), .int .i64 5] w fun e w' => e = .returned (.int .u32 (tn (Sh.rot x 5))) ∧ w = w' := by
  have hx := tn_lt x
  have hx0 := tn_nonneg x
  have hs : tn x * 32 % 4294967296 = tn (x <<< UInt32.ofNat 5) := t_shl x 5 (by omega)
  have hr : tn x / 134217728 = tn (x >>> UInt32.ofNat 27) := t_shr x 27 (by omega)
  have hb : bits .and .u64 5 31 = 5 := by decide +kernel
  go_enter Tryd.func66, Tryd.ntmps66
  go_wp2
  go_ret
  exact ⟨rfl, rfl⟩
theorem rotl30 (x : UInt32) (w : World) : Calls Tryd.prog 66 #[.int .u32 (tn x), .int .i64 30] w fun e w' => e = .returned (.int .u32 (tn (Sh.rot x 30))) ∧ w = w' := by
  have hx := tn_lt x
  have hx0 := tn_nonneg x
  have hs : tn x * 1073741824 % 4294967296 = tn (x <<< UInt32.ofNat 30) := t_shl x 30 (by omega)
  have hr : tn x / 4 = tn (x >>> UInt32.ofNat 2) := t_shr x 2 (by omega)
  have hb : bits .and .u64 30 31 = 30 := by decide +kernel
  go_enter Tryd.func66, Tryd.ntmps66
  go_wp2
  go_ret
  exact ⟨rfl, rfl⟩
theorem rotlm (x : UInt32) (w : World) : Calls Tryd.prog 66 #[.int .u32 (tn x), .int .i64 (-30)] w fun e w' => e = .returned (.int .u32 (tn (Sh.rot x 2))) ∧ w = w' := by
  have hx := tn_lt x
  have hx0 := tn_nonneg x
  have hs : tn x * 4 % 4294967296 = tn (x <<< UInt32.ofNat 2) := t_shl x 2 (by omega)
  have hr : tn x / 1073741824 = tn (x >>> UInt32.ofNat 30) := t_shr x 30 (by omega)
  have hb : bits .and .u64 18446744073709551586 31 = 2 := by decide +kernel
  have hw : IntKind.u64.wrap (-30) = 18446744073709551586 := by decide +kernel
  go_enter Tryd.func66, Tryd.ntmps66
  go_wp2
  go_ret
  exact ⟨rfl, rfl⟩

theorem mixed_any (t : Int) (b c d : UInt32) (w : World) : Calls Tryd.prog 74 #[.int .u32 (tn b), .int .u32 (tn c), .int .u32 (tn d), .int .i64 t] w fun e w' => e = .returned (.int .u32 (tn (Sh.mix t.toNat b c d))) ∧ w = w' := by
  by_cases h1 : t < 20
  · have hv : Sh.mix t.toNat b c d = ((b &&& c) ||| (~~~b &&& d)) + 0x5a827999 := by rw [Sh.mix, if_pos (by omega)]
    have HV := Lib.hid hv
    clear hv
    go_enter Tryd.func74, Tryd.ntmps74
    go_wp2
    go_ret
    exact ⟨ret_int ((k1 _).trans (congrArg tn HV.out.symm)), rfl⟩
  · by_cases h2 : t < 40
    · have hv : Sh.mix t.toNat b c d = (b ^^^ c ^^^ d) + 0x6ed9eba1 := by rw [Sh.mix, if_neg (by omega), if_pos (by omega)]
      have HV := Lib.hid hv
      clear hv
      go_enter Tryd.func74, Tryd.ntmps74
      go_wp2
      go_ret
      exact ⟨ret_int ((k2 _).trans (congrArg tn HV.out.symm)), rfl⟩
    · by_cases h3 : t < 60
      · have hv : Sh.mix t.toNat b c d = ((b &&& c) ||| (b &&& d) ||| (c &&& d)) + 0x8f1bbcdc := by rw [Sh.mix, if_neg (by omega), if_neg (by omega), if_pos (by omega)]
        have HV := Lib.hid hv
        clear hv
        go_enter Tryd.func74, Tryd.ntmps74
        go_wp2
        go_ret
        exact ⟨ret_int ((k3 _).trans (congrArg tn HV.out.symm)), rfl⟩
      · have hv : Sh.mix t.toNat b c d = (b ^^^ c ^^^ d) + 0xca62c1d6 := by rw [Sh.mix, if_neg (by omega), if_neg (by omega), if_neg (by omega)]
        have HV := Lib.hid hv
        clear hv
        go_enter Tryd.func74, Tryd.ntmps74
        go_wp2
        go_ret
        exact ⟨ret_int ((k4 _).trans (congrArg tn HV.out.symm)), rfl⟩

theorem first_any (w : World) : Calls Tryd.prog 42 #[] w fun e w' => e = .returned (.agg (cs Sh.first)) ∧ Below w.heap.size w w' := by
  rw [cs_first]
  go_enter Tryd.func42, Tryd.ntmps42
  go_wp2
  refine bodyPost_ret (v := .agg #[.int .u32 1732584193, .int .u32 4023233417, .int .u32 2562383102, .int .u32 271733878, .int .u32 3285377520]) (by simp [results, Tryd.results42, go_sem]) rfl ⟨rfl, ?_⟩
  exact (Below.refl _ w).alloc (Nat.le_refl _) _

theorem sub3 (a b c d : UInt32) : a - b - c - d = a - (b + c + d) := by
  apply UInt32.toBitVec_inj.1
  simp only [UInt32.toBitVec_sub, UInt32.toBitVec_add]
  rw [BitVec.sub_sub, BitVec.sub_sub, BitVec.add_assoc]

end Go.Proofs.YtmbbigmnliiadaaDoor.Hp
namespace Go.Proofs.YtmbbigmnliiadaaDoor.Hp
open Go.RowKit Hs
set_option linter.unusedVariables false
attribute [local go_sem] t_and t_or t_xor t_not t_add t_sub t_add_wrap t_sub_wrap

theorem zv30 (w : World) : (zeroValue 73).run Tryd.prog w = .ok (.agg (ws [])) w := by kernel_rfl
theorem row_ws (w : World) (l : List UInt32) : (w.alloc (.cells (ws l) 73)).rowIs w.heap.size 73 80 (fun j => .int .u32 (tn (l.getD j 0))) := by
  have h := World.rowIs_alloc w (ws l) 73 (fun j => .int .u32 (tn (l.getD j 0))) (fun i hi => by rw [ws_size] at hi; simp [ws, hi])
  rwa [ws_size] at h
/-- a row of eighty words, its cells laid whole -/
theorem ws_row {w : World} {g : Nat} {l : List UInt32} (h : w.rowIs g 73 80 (fun j => .int .u32 (tn (l.getD j 0)))) : w.heap[g]? = some (.cells (ws l) 73 (0, 0)) := by
  obtain ⟨c, hb, hn, hc⟩ := h
  rw [hb]
  congr 2
  apply Array.ext_getElem?
  intro i
  by_cases hi : i < 80
  · rw [hc i hi]; simp [ws, hi]
  · rw [Array.getElem?_eq_none (by omega), Array.getElem?_eq_none (by rw [ws_size]; omega)]

/-- a word is put behind the t that are there, or in the place of the last -/
theorem row_put {w : World} {g t : Nat} {l : List UInt32} {x y : UInt32} (hl : l.length = t) (h : w.rowIs g 73 80 (fun j => .int .u32 (tn ((l ++ [x]).getD j 0)))) :
    (w.setCell ⟨g, t, none⟩ (.int .u32 (tn y))).rowIs g 73 80 (fun j => .int .u32 (tn ((l ++ [y]).getD j 0))) := by
  refine (h.set t _).congr fun j _ => ?_
  simp only [getD_snoc _ _ _ hl]
  split <;> rfl
theorem row_none {w : World} {g t : Nat} {l : List UInt32} (hl : l.length = t) (h : w.rowIs g 73 80 (fun j => .int .u32 (tn (l.getD j 0)))) :
    w.rowIs g 73 80 (fun j => .int .u32 (tn ((l ++ [0]).getD j 0))) :=
  h.congr fun j _ => by
    rw [getD_snoc _ _ _ hl]
    split
    · rename_i e; rw [List.getD_eq_getElem?_getD, List.getElem?_eq_none (by omega)]; rfl
    · rfl

theorem info30 : (Tryd.prog.info? 73).map (·.size) = some 80 := by kernel_rfl

/-- the state of Expand: the result's row is empty yet, the words' row holds l -/
structure Ex (w wr : World) (l : List UInt32) : Prop where
  below : Below w.heap.size w wr
  size : w.heap.size + 1 < wr.heap.size
  res : wr.rowIs w.heap.size 73 80 (fun j => .int .u32 (tn (([] : List UInt32).getD j 0)))
  row : wr.rowIs (w.heap.size + 1) 73 80 (fun j => .int .u32 (tn (l.getD j 0)))
section
variable {w wr : World} {l : List UInt32} {t : Nat} {x y : UInt32}
theorem Ex.start (w : World) : Ex w ((w.alloc (.cells (ws []) 73)).alloc (.cells (ws []) 73)) [] := by
  refine ⟨((Below.refl _ w).alloc (Nat.le_refl _) _).alloc (by simp) _, by simp, (row_ws w []).alloc _, ?_⟩
  have := row_ws (w.alloc (.cells (ws []) 73)) []
  simpa using this
theorem Ex.begin_ (h : Ex w wr l) (hl : l.length = t) : Ex w wr (l ++ [0]) := ⟨h.below, h.size, h.res, row_none hl h.row⟩
theorem Ex.put (h : Ex w wr (l ++ [x])) (hl : l.length = t) (y : UInt32) : Ex w (wr.setCell ⟨w.heap.size + 1, t, none⟩ (.int .u32 (tn y))) (l ++ [y]) :=
  ⟨h.below.setCell (Nat.le_succ _) _, by simpa using h.size, h.res.setOther (by simp) _, row_put hl h.row⟩
theorem Ex.drawn (h : Ex w wr l) (n : Nat) : Ex w (wr.drewN n) l := ⟨below_drewN h.below n, h.size, h.res, h.row⟩
theorem Ex.drew (h : Ex w wr l) : Ex w wr.drew l := ⟨h.below.drew, h.size, h.res, h.row⟩
theorem Ex.at_ (h : Ex w wr l) {j : Nat} (hj : j < 80) : wr.cell? ⟨w.heap.size + 1, j, none⟩ = some (.int .u32 (tn (l.getD j 0))) := h.row.cell hj
theorem Ex.cell (h : Ex w wr (l ++ [x])) (hl : l.length = t) (ht : t < 80) : wr.cell? ⟨w.heap.size + 1, t, none⟩ = some (.int .u32 (tn x)) := by
  rw [h.row.cell ht, getD_snoc _ _ _ hl, if_pos rfl]
end

/-! ### words out of the bytes so far -/
theorem words16_getD (l : List UInt8) (j : Nat) : (Sh.wordsTo l 16).getD j 0 = if j < 16 then Sh.word l j else 0 := by
  have h : ∀ n, n ≤ 16 → ∀ j, (Sh.wordsTo l n).getD j 0 = if j < n then Sh.word l j else 0 := by
    intro n
    induction n with
    | zero => intro _ j; simp [Sh.wordsTo]
    | succ n ih =>
      intro hn j
      rw [Sh.wordsTo, if_pos (by omega), getD_snoc _ _ _ (Sh.wordsTo_length l n), ih (by omega)]
      by_cases e : j = n
      · subst e; simp
      · rw [if_neg e]
        by_cases h1 : j < n
        · rw [if_pos h1, if_pos (by omega)]
        · rw [if_neg h1, if_neg (by omega)]
  exact h 16 (Nat.le_refl _) j
theorem byteOr_take (l : List UInt8) (i k : Nat) : Sh.byteOr (l.take i) k = if k < i then Sh.byteOr l k else 0 := by
  unfold Sh.byteOr
  by_cases h : k < i
  · rw [if_pos h]; simp [List.getD, h]
  · rw [if_neg h, List.getD_eq_getElem?_getD, List.getElem?_eq_none (by simp; omega)]; rfl
theorem word_take_far (l : List UInt8) (i j : Nat) (h : j ≠ i / 4) : Sh.word (l.take (i + 1)) j = Sh.word (l.take i) j := by
  have hb : ∀ k, k / 4 = j → Sh.byteOr (l.take (i + 1)) k = Sh.byteOr (l.take i) k := fun k hk => by
    rw [byteOr_take, byteOr_take]
    by_cases h1 : k < i
    · rw [if_pos h1, if_pos (by omega)]
    · rw [if_neg h1, if_neg (by omega)]
  unfold Sh.word
  rw [hb (4 * j) (by omega), hb (4 * j + 1) (by omega), hb (4 * j + 2) (by omega), hb (4 * j + 3) (by omega)]
theorem word_take64 (l : List UInt8) (n j : Nat) (hn : 64 ≤ n ∨ l.length ≤ n) (h : j < 16) : Sh.word (l.take n) j = Sh.word l j := by
  have hb : ∀ k, k < 64 → Sh.byteOr (l.take n) k = Sh.byteOr l k := fun k hk => by
    rcases hn with hn | hn
    · rw [byteOr_take, if_pos (by omega)]
    · rw [List.take_of_length_le hn]
  unfold Sh.word
  rw [hb (4 * j) (by omega), hb (4 * j + 1) (by omega), hb (4 * j + 2) (by omega), hb (4 * j + 3) (by omega)]
theorem wordsTo_take64 (l : List UInt8) (n : Nat) (hn : 64 ≤ n ∨ l.length ≤ n) (t : Nat) : Sh.wordsTo (l.take n) t = Sh.wordsTo l t := by
  induction t with
  | zero => rfl
  | succ t ih =>
    rw [Sh.wordsTo, Sh.wordsTo, ih]
    by_cases h : t < 16
    · rw [if_pos h, if_pos h, word_take64 l n t hn h]
    · rw [if_neg h, if_neg h]
/-- a byte more, or'ed into its place -/
theorem or_add (A b s : Nat) (hb : b < 256) : A * 256 * 2 ^ s ||| b * 2 ^ s = (A * 256 + b) * 2 ^ s := by
  have h := Nat.shiftLeft_add_eq_or_of_lt (i := 8) (b := b) (by omega) A
  have h2 : (A <<< 8 ||| b) <<< s = (A <<< 8) <<< s ||| b <<< s := Nat.shiftLeft_or_distrib ..
  rw [← h] at h2
  simp only [Nat.shiftLeft_eq] at h2
  exact h2.symm
theorem word_more (l : List UInt8) (q r : Nat) (hr : r < 4) (hl : 4 * q + r < l.length) :
    Sh.word (l.take (4 * q + r + 1)) q = Sh.word (l.take (4 * q + r)) q ||| UInt32.ofNat ((l.getD (4 * q + r) 0).toNat * 2 ^ (24 - 8 * r)) := by
  have h256 : ∀ k, (l.getD k 0).toNat < 256 := fun k => UInt8.toNat_lt _
  have e : ∀ k, (Sh.byteOr l k).toNat = (l.getD k 0).toNat := fun k => by
    rw [Sh.byteOr, UInt32.toNat_ofNat', Nat.mod_eq_of_lt]; have := h256 k; omega
  have hn : ∀ x y : UInt32, x.toNat = y.toNat → x = y := fun x y h => UInt32.toNat_inj.1 h
  have c0 := h256 (4 * q); have c1 := h256 (4 * q + 1); have c2 := h256 (4 * q + 2); have c3 := h256 (4 * q + 3)
  apply hn
  rw [UInt32.toNat_or]
  unfold Sh.word
  simp only [byteOr_take]
  generalize hB0 : (l.getD (4 * q) 0).toNat = b0 at *
  generalize hB1 : (l.getD (4 * q + 1) 0).toNat = b1 at *
  generalize hB2 : (l.getD (4 * q + 2) 0).toNat = b2 at *
  generalize hB3 : (l.getD (4 * q + 3) 0).toNat = b3 at *
  rcases (by omega : r = 0 ∨ r = 1 ∨ r = 2 ∨ r = 3) with rfl | rfl | rfl | rfl
  · rw [if_pos (by omega), if_neg (by omega), if_neg (by omega), if_neg (by omega), if_neg (by omega), if_neg (by omega), if_neg (by omega), if_neg (by omega), show (2 : Nat) ^ (24 - 8 * 0) = 16777216 by decide]
    simp only [UInt32.toNat_add, UInt32.toNat_mul, e, UInt32.toNat_ofNat', UInt32.reduceToNat, Nat.add_zero, hB0]
    have key : ∀ X Y Z : Nat, X = b0 * 16777216 → Y = 0 → Z = b0 * 16777216 → X = Y ||| Z := by rintro _ _ _ rfl rfl rfl; simp
    apply key <;> omega
  · rw [if_pos (by omega), if_pos (by omega), if_neg (by omega), if_neg (by omega), if_pos (by omega), if_neg (by omega), if_neg (by omega), if_neg (by omega), show (2 : Nat) ^ (24 - 8 * 1) = 65536 by decide]
    have h := or_add b0 b1 16 c1
    rw [show (2 : Nat) ^ 16 = 65536 by decide] at h
    simp only [UInt32.toNat_add, UInt32.toNat_mul, e, UInt32.toNat_ofNat', UInt32.reduceToNat, Nat.add_zero, hB0, hB1]
    have key : ∀ X Y Z : Nat, X = (b0 * 256 + b1) * 65536 → Y = b0 * 256 * 65536 → Z = b1 * 65536 → X = Y ||| Z := by rintro _ _ _ rfl rfl rfl; exact h.symm
    apply key <;> omega
  · rw [if_pos (by omega), if_pos (by omega), if_pos (by omega), if_neg (by omega), if_pos (by omega), if_pos (by omega), if_neg (by omega), if_neg (by omega), show (2 : Nat) ^ (24 - 8 * 2) = 256 by decide]
    have h := or_add (b0 * 256 + b1) b2 8 c2
    rw [show (2 : Nat) ^ 8 = 256 by decide] at h
    simp only [UInt32.toNat_add, UInt32.toNat_mul, e, UInt32.toNat_ofNat', UInt32.reduceToNat, Nat.add_zero, hB0, hB1, hB2]
    have key : ∀ X Y Z : Nat, X = ((b0 * 256 + b1) * 256 + b2) * 256 → Y = (b0 * 256 + b1) * 256 * 256 → Z = b2 * 256 → X = Y ||| Z := by rintro _ _ _ rfl rfl rfl; exact h.symm
    apply key <;> omega
  · rw [if_pos (by omega), if_pos (by omega), if_pos (by omega), if_pos (by omega), if_pos (by omega), if_pos (by omega), if_pos (by omega), if_neg (by omega), show (2 : Nat) ^ (24 - 8 * 3) = 1 by decide]
    have h := or_add ((b0 * 256 + b1) * 256 + b2) b3 0 c3
    rw [show (2 : Nat) ^ 0 = 1 by decide] at h
    simp only [UInt32.toNat_add, UInt32.toNat_mul, e, UInt32.toNat_ofNat', UInt32.reduceToNat, Nat.add_zero, hB0, hB1, hB2, hB3]
    have key : ∀ X Y Z : Nat, X = (((b0 * 256 + b1) * 256 + b2) * 256 + b3) * 1 → Y = ((b0 * 256 + b1) * 256 + b2) * 256 * 1 → Z = b3 * 1 → X = Y ||| Z := by rintro _ _ _ rfl rfl rfl; exact h.symm
    apply key <;> omega

theorem Ex.more {w wr : World} {l : List UInt8} {q r : Nat} (h : Ex w wr (Sh.wordsTo (l.take (4 * q + r)) 16)) (hr : r < 4) (hq : q < 16) (hl : 4 * q + r < l.length) :
    Ex w (wr.setCell ⟨w.heap.size + 1, q, none⟩ (.int .u32 (tn (Sh.word (l.take (4 * q + r)) q ||| UInt32.ofNat ((l.getD (4 * q + r) 0).toNat * 2 ^ (24 - 8 * r)))))) (Sh.wordsTo (l.take (4 * q + r + 1)) 16) := by
  refine ⟨h.below.setCell (Nat.le_succ _) _, by simpa using h.size, h.res.setOther (by simp) _, ?_⟩
  refine (h.row.set q _).congr fun j _ => ?_
  rw [words16_getD, words16_getD]
  by_cases e : j = q
  · subst e
    rw [if_pos rfl, if_pos hq, word_more l j r hr hl]
  · rw [if_neg e, word_take_far l (4 * q + r) j (by omega)]
theorem Ex.word {w wr : World} {l : List UInt8} {q : Nat} (h : Ex w wr (Sh.wordsTo l 16)) (hq : q < 16) : wr.cell? ⟨w.heap.size + 1, q, none⟩ = some (.int .u32 (tn (Sh.word l q))) := by
  rw [h.at_ (by omega), words16_getD, if_pos hq]

set_option maxHeartbeats 2000000 in
set_option maxRecDepth 100000 in
theorem expand_any (s : ByteArray) (w : World) (hs : s.size ≤ 100000) :
    Calls Tryd.prog 59 #[.string s] w fun e w' => e = .returned (.agg (ws (Sh.words s.data.toList))) ∧ Below w.heap.size w w' := by
  have hz := zv30
  have hst : Ex w ((w.alloc (.cells (ws []) 73)).alloc (.cells (ws []) 73)) (Sh.wordsTo (s.data.toList.take 0) 16) := by
    have h := Ex.start w
    refine ⟨h.below, h.size, h.res, h.row.congr fun j _ => ?_⟩
    rw [words16_getD]
    simp [Sh.word, Sh.byteOr]
  have HST := Lib.hid hst
  clear hst
  obtain ⟨M, hM⟩ : ∃ M, M = min s.size 64 := ⟨_, rfl⟩
  have hmin : ∀ (ts : Array TypeId) (t : TypeId) (W : World), (Builtin.min_ ts t #[.int .i64 (s.size : Int), .int .i64 64]).run Tryd.prog W = .ok (.int .i64 (M : Int)) W := fun ts t W => by
    rw [run_min_int2]
    congr 2
    split <;> omega
  have hM64 : M ≤ 64 := by omega
  have hMs : M ≤ s.size := by omega
  have HMM := Lib.hid hM
  clear hM
  go_enter Tryd.func59, Tryd.ntmps59
  go_wp2
  clear hz hmin
  go_loopg [9] M (fun g i wr => ∃ k : Nat, k ≤ M ∧ g = M - k ∧ i = .int .i64 k ∧ Ex w wr (Sh.wordsTo (s.data.toList.take k) 16))
  case atStart => exact ⟨0, Nat.zero_le _, rfl, rfl, HST.out⟩
  case round =>
    obtain ⟨k, hk, rfl, rfl, hex⟩ := hrel
    clear HST
    by_cases hlt : k < M
    · have h1 : (k : Int) < M := by omega
      obtain ⟨q, r, hr, rfl⟩ : ∃ q r, r < 4 ∧ k = 4 * q + r := ⟨k / 4, k % 4, Nat.mod_lt _ (by omega), by omega⟩
      have hq : q < 16 := by omega
      have hc := hex.word hq
      have hf := hex.row.frozen q
      have hks : 4 * q + r < s.data.toList.length := by simp; omega
      have hmore := hex.more hr hq hks
      generalize Sh.word (s.data.toList.take (4 * q + r)) q = X at *
      have HM := Lib.hid hmore
      clear hmore hex
      have wq : IntKind.i64.wrap (q : Int) = q := IntWalk.i64_in _ (by omega)
      have hq0 : (0 : Int) ≤ q := by omega
      have hq80 : (q : Int) < 80 := by omega
      have hqn : ((q : Int)).toNat = q := by omega
      have hks2 : 4 * q + r < s.size := by simpa using hks
      have hyy : (s[4 * q + r].toNat : Int) = ((s.data.toList.getD (4 * q + r) 0).toNat : Int) := by rw [List.getD_eq_getElem?_getD, List.getElem?_eq_getElem hks]; rfl
      have hy256 : (s.data.toList.getD (4 * q + r) 0).toNat < 256 := UInt8.toNat_lt _
      generalize (s.data.toList.getD (4 * q + r) 0).toNat = y at *
      rcases (by omega : r = 0 ∨ r = 1 ∨ r = 2 ∨ r = 3) with rfl | rfl | rfl | rfl
      · generalize hk4 : 4 * q + 0 = k at *
        have hq4 : (k : Int).tdiv 4 = q := by rw [Int.tdiv_eq_ediv_of_nonneg (by omega)]; omega
        have hr4 : (k : Int).tmod 4 = 0 := by rw [Int.tmod_eq_emod_of_nonneg (by omega)]; omega
        have hsh : (y : Int) * 16777216 = tn (UInt32.ofNat (y * 2 ^ (24 - 8 * 0))) := by rw [tn_ofNat (by omega)]; omega
        have HSH := Lib.hid hsh
        clear hsh
        go_wp2_with fail
        go_region
        go_wp2
        go_roundg (M - (k + 1))
        case rel =>
          refine ⟨k + 1, by omega, rfl, by go_num, ?_⟩
          have h := HM.out.drew
          rw [← t_or, ← HSH.out] at h
          skip
          exact h
        case measure => omega
      · generalize hk4 : 4 * q + 1 = k at *
        have hq4 : (k : Int).tdiv 4 = q := by rw [Int.tdiv_eq_ediv_of_nonneg (by omega)]; omega
        have hr4 : (k : Int).tmod 4 = 1 := by rw [Int.tmod_eq_emod_of_nonneg (by omega)]; omega
        have hsh : (y : Int) * 65536 = tn (UInt32.ofNat (y * 2 ^ (24 - 8 * 1))) := by rw [tn_ofNat (by omega)]; omega
        have HSH := Lib.hid hsh
        clear hsh
        go_wp2_with fail
        go_region
        go_wp2
        go_roundg (M - (k + 1))
        case rel =>
          refine ⟨k + 1, by omega, rfl, by go_num, ?_⟩
          have h := HM.out.drew
          rw [← t_or, ← HSH.out] at h
          skip
          exact h
        case measure => omega
      · generalize hk4 : 4 * q + 2 = k at *
        have hq4 : (k : Int).tdiv 4 = q := by rw [Int.tdiv_eq_ediv_of_nonneg (by omega)]; omega
        have hr4 : (k : Int).tmod 4 = 2 := by rw [Int.tmod_eq_emod_of_nonneg (by omega)]; omega
        have hsh : (y : Int) * 256 = tn (UInt32.ofNat (y * 2 ^ (24 - 8 * 2))) := by rw [tn_ofNat (by omega)]; omega
        have HSH := Lib.hid hsh
        clear hsh
        go_wp2_with fail
        go_region
        go_wp2
        go_roundg (M - (k + 1))
        case rel =>
          refine ⟨k + 1, by omega, rfl, by go_num, ?_⟩
          have h := HM.out.drew
          rw [← t_or, ← HSH.out] at h
          skip
          exact h
        case measure => omega
      · generalize hk4 : 4 * q + 3 = k at *
        have hq4 : (k : Int).tdiv 4 = q := by rw [Int.tdiv_eq_ediv_of_nonneg (by omega)]; omega
        have hr4 : (k : Int).tmod 4 = 3 := by rw [Int.tmod_eq_emod_of_nonneg (by omega)]; omega
        have hsh : (y : Int) * 1 = tn (UInt32.ofNat (y * 2 ^ (24 - 8 * 3))) := by rw [tn_ofNat (by omega)]; omega
        have HSH := Lib.hid hsh
        clear hsh
        go_wp2_with fail
        go_region
        go_wp2
        go_roundg (M - (k + 1))
        case rel =>
          refine ⟨k + 1, by omega, rfl, by go_num, ?_⟩
          have h := HM.out.drew
          rw [← t_or, ← HSH.out] at h
          rw [Int.mul_one] at h
          exact h
        case measure => omega
    · obtain rfl : k = M := by omega
      have h1 : ¬ ((k : Int) < (k : Int)) := by omega
      have hall : Sh.wordsTo (s.data.toList.take k) 16 = Sh.wordsTo s.data.toList 16 := wordsTo_take64 _ _ (by have := HMM.out; simp; omega) _
      rw [hall] at hex
      have HE := Lib.hid hex
      clear hex
      go_wp2
      go_loopg [5] 64 (fun g i wx => ∃ t : Nat, 16 ≤ t ∧ t ≤ 80 ∧ g = 80 - t ∧ i = .int .i64 t ∧ Ex w wx (Sh.wordsTo s.data.toList t))
      case atStart => exact ⟨16, Nat.le_refl _, by omega, rfl, rfl, HE.out⟩
      case round =>
        obtain ⟨t, ht16, ht80, rfl, rfl, hex⟩ := hrel
        clear HE
        by_cases hlt : t < 80
        · have h1 : (t : Int) < 80 := by omega
          have hlen := Sh.wordsTo_length s.data.toList t
          have hnx := wordsTo_high s.data.toList t (by omega)
          generalize Sh.wordsTo s.data.toList t = L at *
          have HL := Lib.hid hlen
          have HNX := Lib.hid hnx
          clear hlen hnx
          have a3 : (0 : Int) ≤ (t : Int) - 3 := by omega
          have b3 : (3 : Int) ≤ (t : Int) := by omega
          have d3 : (t : Int) - 3 < 80 := by omega
          have a8 : (0 : Int) ≤ (t : Int) - 8 := by omega
          have b8 : (8 : Int) ≤ (t : Int) := by omega
          have d8 : (t : Int) - 8 < 80 := by omega
          have a14 : (0 : Int) ≤ (t : Int) - 14 := by omega
          have b14 : (14 : Int) ≤ (t : Int) := by omega
          have d14 : (t : Int) - 14 < 80 := by omega
          have a16 : (0 : Int) ≤ (t : Int) - 16 := by omega
          have b16 : (16 : Int) ≤ (t : Int) := by omega
          have d16 : (t : Int) - 16 < 80 := by omega
          have n3 : ((t : Int) - 3).toNat = t - 3 := by omega
          have n8 : ((t : Int) - 8).toNat = t - 8 := by omega
          have n14 : ((t : Int) - 14).toNat = t - 14 := by omega
          have n16 : ((t : Int) - 16).toNat = t - 16 := by omega
          have w3 : IntKind.i64.wrap ((t : Int) - 3) = (t : Int) - 3 := IntWalk.i64_in _ (by omega)
          have w8 : IntKind.i64.wrap ((t : Int) - 8) = (t : Int) - 8 := IntWalk.i64_in _ (by omega)
          have w14 : IntKind.i64.wrap ((t : Int) - 14) = (t : Int) - 14 := IntWalk.i64_in _ (by omega)
          have w16 : IntKind.i64.wrap ((t : Int) - 16) = (t : Int) - 16 := IntWalk.i64_in _ (by omega)
          have c3 := hex.at_ (j := t - 3) (by omega)
          have c8 := hex.at_ (j := t - 8) (by omega)
          have c14 := hex.at_ (j := t - 14) (by omega)
          have c16 := hex.at_ (j := t - 16) (by omega)
          have ct := (hex.begin_ HL.out).cell HL.out hlt
          have cf := hex.row.frozen t
          have HX := Lib.hid (hex.begin_ HL.out)
          clear hex
          generalize L.getD (t - 3) 0 = x3 at *
          generalize L.getD (t - 8) 0 = x8 at *
          generalize L.getD (t - 14) 0 = x14 at *
          generalize L.getD (t - 16) 0 = x16 at *
          have hk3 : ∀ v, (wr.setCell ⟨w.heap.size + 1, t, none⟩ v).cell? ⟨w.heap.size + 1, t - 3, none⟩ = some (.int .u32 (tn x3)) := fun v => by rw [World.cell?_setCell_other _ _ _ _ (fun e => by injection e with _ e; omega)]; exact c3
          have hk8 : ∀ v, (wr.setCell ⟨w.heap.size + 1, t, none⟩ v).cell? ⟨w.heap.size + 1, t - 8, none⟩ = some (.int .u32 (tn x8)) := fun v => by rw [World.cell?_setCell_other _ _ _ _ (fun e => by injection e with _ e; omega)]; exact c8
          have hk14 : ∀ v, (wr.setCell ⟨w.heap.size + 1, t, none⟩ v).cell? ⟨w.heap.size + 1, t - 14, none⟩ = some (.int .u32 (tn x14)) := fun v => by rw [World.cell?_setCell_other _ _ _ _ (fun e => by injection e with _ e; omega)]; exact c14
          have hk16 : ∀ v, (wr.setCell ⟨w.heap.size + 1, t, none⟩ v).cell? ⟨w.heap.size + 1, t - 16, none⟩ = some (.int .u32 (tn x16)) := fun v => by rw [World.cell?_setCell_other _ _ _ _ (fun e => by injection e with _ e; omega)]; exact c16
          go_wp2_with fail
          go_region_held3 (fun w' => w'.cell? ⟨w.heap.size + 1, t - 3, none⟩ = some (.int .u32 (tn x3)) ∧ w'.cell? ⟨w.heap.size + 1, t - 8, none⟩ = some (.int .u32 (tn x8)) ∧ w'.cell? ⟨w.heap.size + 1, t - 14, none⟩ = some (.int .u32 (tn x14)) ∧ w'.cell? ⟨w.heap.size + 1, t - 16, none⟩ = some (.int .u32 (tn x16))) (go_keep)
            (first | (go_at_call 66; refine (rotl1 _ _).mono ?_; rintro e w' ⟨rfl, rfl⟩))
          go_wp2
          go_roundg (80 - (t + 1))
          case rel => exact ⟨t + 1, by omega, by omega, rfl, by go_num, by rw [HNX.out]; exact (HX.out.put HL.out _).drew⟩
          case measure => omega
        · obtain rfl : t = 80 := by omega
          have hw : wr.heap[w.heap.size + 1]? = some (.cells (ws (Sh.words s.data.toList)) 73 (0, 0)) := ws_row hex.row
          have hr : wr.heap[w.heap.size]? = some (.cells (ws []) 73 (0, 0)) := ws_row hex.res
          have hbl := hex.below
          clear hex
          generalize hW : ws (Sh.words s.data.toList) = W at *
          have hWs : W.size = 80 := by rw [← hW]; exact ws_size _
          have hW1 : W.all (·.oneCell') = true := by rw [← hW]; simp [ws, Value.oneCell']
          have HW := Lib.hid hW
          have HS := Lib.hid hWs
          clear hW hWs
          have i30 : (Tryd.prog.info? 73).map (·.size) = some W.size := by rw [HS.out]; exact info30
          have HI := Lib.hid i30
          have HR := Lib.hid hr
          have HH := Lib.hid hw
          clear i30 hr hw
          go_wp2_with (first
            | (with_reducible refine wpList_load_row rfl 73 (.tmp 3) rfl (w.heap.size + 1) rfl 73 W (0, 0) _ HH.out Tryd.underlying73 rfl HI.out ?_)
            | (with_reducible refine wpList_store_row rfl 73 (.tmp 2) (.tmp 54) rfl w.heap.size W rfl rfl 73 (ws []) HR.out HI.out (by rw [ws_size, HS.out]) hW1 ?_))
          refine bodyPost_ret (results_cell_row Tryd.results59 _ _ w.heap.size 73 W (0, 0) _ rfl (setRow_heap _ _ _ _ _ _ HR.out) Tryd.underlying73 rfl HI.out) rfl ⟨by rw [HW.out], ?_⟩
          exact below_setRow hbl (Nat.le_refl _) _
end Go.Proofs.YtmbbigmnliiadaaDoor.Hp
namespace Go.Proofs.YtmbbigmnliiadaaDoor.Hp
open Go.RowKit Hs
set_option linter.unusedVariables false
attribute [local go_sem] t_and t_or t_xor t_not t_add t_sub t_add_wrap t_sub_wrap

theorem info30' (l : List UInt32) : (Tryd.prog.info? 73).map (·.size) = some (ws l).size := by rw [ws_size]; exact info30
theorem info28 : (Tryd.prog.info? 70).map (·.size) = some 5 := by kernel_rfl
theorem info28' (p q r s t : Value) : (Tryd.prog.info? 70).map (·.size) = some (#[p, q, r, s, t] : Array Value).size := info28
theorem size5 (p q r s t p' q' r' s' t' : Value) : (#[p, q, r, s, t] : Array Value).size = (#[p', q', r', s', t'] : Array Value).size := rfl
theorem one5 (p q r s t : UInt32) : (#[.int .u32 (tn p), .int .u32 (tn q), .int .u32 (tn r), .int .u32 (tn s), .int .u32 (tn t)] : Array Value).all (·.oneCell') = true := by simp [Value.oneCell']
theorem ws_one (l : List UInt32) : (ws l).all (·.oneCell') = true := by simp [ws, Value.oneCell']
theorem ws_get (l : List UInt32) (t : Nat) (h : t < 80) : (ws l)[t]? = some (.int .u32 (tn (l.getD t 0))) := by simp [ws, h]
theorem ws_sizes (l m : List UInt32) : (ws l).size = (ws m).size := by rw [ws_size, ws_size]

theorem run_index_row {P : Program} {ty elem : TypeId} {n : Nat} (hu : P.underlying ty = some (.array n elem)) (ha : ∀ w, (isAgg elem).run P w = .ok false w) (hz : ∀ w, (Go.sizeOf elem).run P w = .ok 1 w)
    {W : Array Value} {t : Nat} (h : t < n) {v : Value} (hv : W[t]? = some v) (w : World) : (Instr.index ty (.agg W) (.int .i64 t)).run P w = .ok v w := by
  have h0 : (0 : Int) ≤ t := by omega
  have h1 : (t : Int) < n := by omega
  simp [Instr.index, asIntOf, run_underlying hu, Sem.run_bind, h, hz, part, ha, hv]

set_option maxHeartbeats 2000000 in
set_option maxRecDepth 100000 in
theorem press_any (x : Sh.Ch) (s : ByteArray) (w : World) (hs : s.size ≤ 100000) :
    Calls Tryd.prog 61 #[.agg (cs x), .string s] w fun e w' => e = .returned (.agg (cs (Sh.press x s.data.toList))) ∧ Below w.heap.size w w' := by
  obtain ⟨a, b, c, d, e⟩ := x
  have hz := zv30
  have hL : Sh.press ⟨a, b, c, d, e⟩ s.data.toList = Sh.add ⟨a, b, c, d, e⟩ (Sh.stepsTo s.data.toList ⟨a, b, c, d, e⟩ 80) := rfl
  have hS : ∀ t, Sh.stepsTo s.data.toList ⟨a, b, c, d, e⟩ (t + 1) = Sh.step (Sh.stepsTo s.data.toList ⟨a, b, c, d, e⟩ t) t ((Sh.words s.data.toList).getD t 0) := fun t => rfl
  have hS0 : Sh.stepsTo s.data.toList ⟨a, b, c, d, e⟩ 0 = ⟨a, b, c, d, e⟩ := rfl
  unfold cs
  go_enter Tryd.func61, Tryd.ntmps61
  go_wp2_with fail
  refine (expand_any _ _ hs).mono ?_
  rintro e0 w1 ⟨rfl, hb1⟩
  have hsz := hb1.size
  simp at hsz
  have hp : w1.heap[w.heap.size]? = some (.cells #[.int .u32 (tn a), .int .u32 (tn b), .int .u32 (tn c), .int .u32 (tn d), .int .u32 (tn e)] 70 (0, 0)) := by
    rw [hb1.block _ (by simp; omega)]
    exact heap_alloc2_old _ _ _
  have hr : w1.heap[w.heap.size + 1]? = some (.cells #[.int .u32 0, .int .u32 0, .int .u32 0, .int .u32 0, .int .u32 0] 70 (0, 0)) := by
    rw [hb1.block _ (by simp)]
    exact heap_alloc2_new _ _ _
  have hbw : Below w.heap.size w w1 := (((Below.refl _ w).alloc (Nat.le_refl _) _).alloc (by simp) _).trans (hb1.mono (by simp; omega))
  clear hb1
  generalize Sh.words s.data.toList = L at *
  have hnew := heap_alloc_new w1 (.cells (ws []) 73)
  have hp2 : ((w1.alloc (.cells (ws []) 73)).setRow w1.heap.size (ws L)).heap[w.heap.size]? = _ := (setRow_other _ _ _ _ (by omega)).trans ((Below.heap_alloc _ _ _ (by omega)).trans hp)
  have hr2 : ((w1.alloc (.cells (ws []) 73)).setRow w1.heap.size (ws L)).heap[w.heap.size + 1]? = _ := (setRow_other _ _ _ _ (by omega)).trans ((Below.heap_alloc _ _ _ (by omega)).trans hr)
  have hw2 := setRow_heap _ _ _ (ws L) _ _ hnew
  have hb2 : Below w.heap.size w ((w1.alloc (.cells (ws []) 73)).setRow w1.heap.size (ws L)) := below_setRow (hbw.alloc hbw.size _) hbw.size _
  have HN := Lib.hid hnew
  have HP := Lib.hid hp2
  have HR := Lib.hid hr2
  have HW := Lib.hid hw2
  have HB := Lib.hid hb2
  have HL := Lib.hid hL
  have HS := Lib.hid hS
  have HS0 := Lib.hid hS0
  clear hp hr hbw hnew hp2 hr2 hw2 hb2 hL hS hS0
  go_wp2_with (with_reducible refine wpList_store_row rfl 73 (.tmp 5) (.tmp 14) rfl w1.heap.size (ws L) rfl rfl 73 (ws []) HN.out (info30' _) (ws_sizes _ _) (ws_one _) ?_)
  clear hz HN
  generalize (w1.alloc (.cells (ws []) 73)).setRow w1.heap.size (ws L) = w2 at *
  have c0 := cell_of_row w2 w.heap.size 0 _ _ _ HP.out
  have c1 := cell_of_row w2 w.heap.size 1 _ _ _ HP.out
  have c2 := cell_of_row w2 w.heap.size 2 _ _ _ HP.out
  have c3 := cell_of_row w2 w.heap.size 3 _ _ _ HP.out
  have c4 := cell_of_row w2 w.heap.size 4 _ _ _ HP.out
  simp at c0 c1 c2 c3 c4
  have HWD := Lib.hid (show w2.drew.heap[w1.heap.size]? = some (.cells (ws L) 73 (0, 0)) from HW.out)
  refine wp_region_still_lit (by kernel_rfl) (by kernel_rfl) ?_
  change wpStill _ _ (World.drew _) (fun a' => Exit.then _ _ _ a' (World.drew _)) _ _
  iterate 15 still_step
  refine wpStill_nil ?_
  go_wp2_with (with_reducible refine wpList_load_row rfl 73 (.tmp 5) rfl w1.heap.size rfl 73 (ws L) (0, 0) _ HWD.out Tryd.underlying73 rfl (info30' _) ?_)
  go_loopg [6, 7, 8, 9, 10, 26] 80 (fun g va vb vc vd ve i wr => ∃ (t : Nat) (y : Sh.Ch), t ≤ 80 ∧ g = 80 - t ∧ i = .int .i64 t ∧ wr = w2.drew ∧ y = Sh.stepsTo s.data.toList ⟨a, b, c, d, e⟩ t ∧ va = .int .u32 (tn y.a) ∧ vb = .int .u32 (tn y.b) ∧ vc = .int .u32 (tn y.c) ∧ vd = .int .u32 (tn y.d) ∧ ve = .int .u32 (tn y.e))
  case atStart => exact ⟨0, ⟨a, b, c, d, e⟩, Nat.zero_le _, rfl, rfl, rfl, HS0.out.symm, rfl, rfl, rfl, rfl, rfl⟩
  case round =>
    obtain ⟨t, ⟨ya, yb, yc, yd, ye⟩, ht, rfl, rfl, rfl, hy, rfl, rfl, rfl, rfl, rfl⟩ := hrel
    have HY := Lib.hid hy
    clear hy
    by_cases hlt : t < 80
    · have h1 : (t : Int) < 80 := by omega
      have h0 : (0 : Int) ≤ t := by omega
      have hn : ((t : Int)).toNat = t := by omega
      have hg := run_index_row (P := Tryd.prog) Tryd.underlying73 Tryd.isAgg68 Tryd.sizeOf68 hlt (ws_get L t hlt)
      have hnx := HS.out t
      generalize L.getD t 0 = v at *
      rw [← HY.out] at hnx
      have HNX := Lib.hid hnx
      clear hnx
      go_wp2_with (first | (go_at_call 66; with_reducible refine (rotl30 _ _).mono ?_; rintro e w' ⟨rfl, rfl⟩) | (go_at_call 66; with_reducible refine (rotl5 _ _).mono ?_; rintro e w' ⟨rfl, rfl⟩) | (go_at_call 74; with_reducible refine (mixed_any _ _ _ _ _).mono ?_; rintro e w' ⟨rfl, rfl⟩))
      go_roundg (80 - (t + 1))
      case rel => exact ⟨t + 1, Sh.step ⟨ya, yb, yc, yd, ye⟩ t v, by omega, rfl, by go_num, rfl, HNX.out.symm, rfl, rfl, rfl, rfl, rfl⟩
      case measure => omega
    · obtain rfl : t = 80 := by omega
      have hfin := HL.out
      rw [← HY.out] at hfin
      have HF := Lib.hid hfin
      have HRD := Lib.hid (show w2.drew.heap[w.heap.size + 1]? = some (.cells #[.int .u32 0, .int .u32 0, .int .u32 0, .int .u32 0, .int .u32 0] 70 (0, 0)) from HR.out)
      clear hfin
      go_wp2_with (with_reducible refine wpList_store_row rfl 70 (.tmp 4) (.tmp 68) rfl (w.heap.size + 1) #[.int .u32 (tn (a + ya)), .int .u32 (tn (b + yb)), .int .u32 (tn (c + yc)), .int .u32 (tn (d + yd)), .int .u32 (tn (e + ye))] rfl rfl 70 _ HRD.out (info28' _ _ _ _ _) (size5 _ _ _ _ _ _ _ _ _ _) (one5 _ _ _ _ _) ?_)
      refine bodyPost_ret (results_cell_row Tryd.results61 _ _ (w.heap.size + 1) 70 #[.int .u32 (tn (a + ya)), .int .u32 (tn (b + yb)), .int .u32 (tn (c + yc)), .int .u32 (tn (d + yd)), .int .u32 (tn (e + ye))] (0, 0) _ rfl (setRow_heap _ _ _ _ _ _ HRD.out) Tryd.underlying70 rfl (info28' _ _ _ _ _)) rfl ⟨by rw [HF.out]; rfl, ?_⟩
      exact below_setRow HB.out.drew (by omega) _
end Go.Proofs.YtmbbigmnliiadaaDoor.Hp
namespace Go.Proofs.YtmbbigmnliiadaaDoor.Hp
open Go.RowKit Hs
set_option linter.unusedVariables false

/-- the seventy cells of a state -/
def sts (x : Sh.Ch) (r : List UInt8) (n : Nat) : Array Value := ((cs x).toList ++ Lib.byteCells r ++ [Value.int .u64 n]).toArray
theorem cs_len (x : Sh.Ch) : (cs x).toList.length = 5 := rfl
theorem sts_size (x : Sh.Ch) (r : List UInt8) (n : Nat) (hr : r.length = 64) : (sts x r n).size = 70 := by simp [sts, cs, Lib.byteCells_length, hr]
theorem sts_told (x : Sh.Ch) (r : List UInt8) (n : Nat) (hr : r.length = 64) : (sts x r n)[69]? = some (.int .u64 n) := by
  unfold sts
  rw [List.getElem?_toArray, List.getElem?_append_right (by simp [cs, Lib.byteCells_length, hr])]
  simp [cs, Lib.byteCells_length, hr]
theorem sts_rest (x : Sh.Ch) (r : List UInt8) (n i : Nat) (hi : i < r.length) : (sts x r n)[5 + i]? = some (.int .u8 (r.getD i 0).toNat) := by
  unfold sts
  rw [List.getElem?_toArray, List.getElem?_append_left (by simp [cs, Lib.byteCells_length]; omega), List.getElem?_append_right (by simp [cs])]
  simp [cs, Lib.byteCells, List.getD, List.getElem?_eq_getElem hi]
theorem sts_set (x : Sh.Ch) (r : List UInt8) (n m : Nat) (hr : r.length = 64) : (sts x r n).setIfInBounds 69 (.int .u64 m) = sts x r m := by
  apply Array.ext_getElem?
  intro i
  rw [Array.getElem?_setIfInBounds, sts_size _ _ _ hr]
  by_cases h : 69 = i
  · subst h
    rw [if_pos rfl, if_pos (by omega), sts_told _ _ _ hr]
  · rw [if_neg h]
    unfold sts
    rw [List.getElem?_toArray, List.getElem?_toArray]
    by_cases h2 : i < 69
    · rw [List.getElem?_append_left (l₂ := [Value.int .u64 (n : Int)]) (by simp [cs, Lib.byteCells_length, hr]; omega), List.getElem?_append_left (l₂ := [Value.int .u64 (m : Int)]) (by simp [cs, Lib.byteCells_length, hr]; omega)]
    · rw [List.getElem?_eq_none (by simp [cs, Lib.byteCells_length, hr]; omega), List.getElem?_eq_none (by simp [cs, Lib.byteCells_length, hr]; omega)]
theorem sts_one (x : Sh.Ch) (r : List UInt8) (n : Nat) : (sts x r n).all (·.oneCell') = true := by
  simp [sts, cs, Lib.byteCells, Value.oneCell']
theorem info55 (x : Sh.Ch) (r : List UInt8) (n : Nat) (hr : r.length = 64) : (Tryd.prog.info? 96).map (·.size) = some (sts x r n).size := by
  rw [sts_size _ _ _ hr]
  kernel_rfl

/-- the chain of a state, read -/
theorem run_load_chain (w : World) (b : Nat) (x : Sh.Ch) (r : List UInt8) (n : Nat) (fr : Nat × Nat) (hg : w.heap[b]? = some (.cells (sts x r n) 96 fr)) :
    (loadVar 70 ⟨b, 0, none⟩).run Tryd.prog w = .ok (.agg (cs x)) w := by
  have hl : (loadCells ⟨b, 0, none⟩ (cs x).toList.length).run Tryd.prog w = .ok (cs x).toList.toArray w :=
    run_loadCells_list (P := Tryd.prog) w ⟨b, 0, none⟩ (cs x).toList (fun j v hv => by
      rw [add_zero_of, cell_of_row w b j _ _ fr hg]
      unfold sts
      have hj : j < 5 := by
        rcases Nat.lt_or_ge j 5 with h | h
        · exact h
        · rw [List.getElem?_eq_none (by simpa [cs] using h)] at hv; cases hv
      rw [List.getElem?_toArray, List.getElem?_append_left (by simp [cs]; omega), List.getElem?_append_left (by simpa [cs] using hj)]
      exact hv)
  have hq := info28
  cases hi : Tryd.prog.info? 70 with
  | none => rw [hi] at hq; cases hq
  | some i =>
    have hs : i.size = 5 := by simpa [hi] using hq
    simp only [Array.toArray_toList, cs_len] at hl
    simp [loadVar, Sem.run_bind, Tryd.isAgg70, sizeOf, typeInfo, hi, hs, hl]
/-- the chain of a state, put in -/
theorem run_store_chain (w : World) (b : Nat) (x y : Sh.Ch) (r : List UInt8) (n : Nat) (hg : w.heap[b]? = some (.cells (sts x r n) 96 (0, 0))) :
    (storeVar 70 ⟨b, 0, none⟩ (.agg (cs y))).run Tryd.prog w = .ok () (w.setRow b (sts y r n)) := by
  have hst := run_storeCells_at Tryd.prog b 0 96 (cs y).toList 0 (sts x r n) w hg (by simp [sts, cs]) (fun v hv => by
    have := cs_one y
    rw [Array.all_eq_true_iff_forall_mem] at this
    exact this v (by simpa using hv))
  have hq := info28
  cases hi : Tryd.prog.info? 70 with
  | none => rw [hi] at hq; cases hq
  | some i =>
    have hs : i.size = 5 := by simpa [hi] using hq
    have hc : (Value.agg (cs y)).cells = cs y := rfl
    simp only [Nat.add_zero, Nat.zero_add, List.take_zero, List.nil_append, cs_len] at hst
    have hrow : ((cs y).toList ++ (sts x r n).toList.drop 5).toArray = sts y r n := by simp [sts, cs]
    rw [hrow] at hst
    simp [storeVar, Sem.run_bind, sizeOf, typeInfo, hi, hs, hc, hst, show (cs y).size = 5 from rfl]

/-- a state that was told l -/
def St (w : World) (b : Nat) (l : List UInt8) : Prop :=
  ∃ r : List UInt8, r.length = 64 ∧ r.take (l.length % 64) = l.drop (64 * (l.length / 64)) ∧ w.heap[b]? = some (.cells (sts (Sh.chain l (l.length / 64)) r l.length) 96 (0, 0))
theorem St.lt {w : World} {b : Nat} {l : List UInt8} (h : St w b l) : b < w.heap.size := by
  obtain ⟨r, _, _, hg⟩ := h
  exact (Array.getElem?_eq_some_iff.1 hg).1
theorem St.kept {w w' : World} {b : Nat} {l : List UInt8} (h : St w b l) (hb : w'.heap[b]? = w.heap[b]?) : St w' b l := by
  obtain ⟨r, h1, h2, hg⟩ := h
  exact ⟨r, h1, h2, hb.trans hg⟩
theorem St.below {w w' : World} {B b : Nat} {l : List UInt8} (h : St w b l) (hb : Below B w w') (hB : b < B) : St w' b l := h.kept (hb.block _ hB)
theorem St.grown {w w' : World} {row : Option Nat} {b : Nat} {l : List UInt8} (h : St w b l) (hb : w.grownBy w' row) (hne : some b ≠ row) : St w' b l := h.kept (hb.block _ h.lt hne)

theorem wpList_built {P : Program} {ops : Array Oper} {rest : List Oper} {o : Oper} {a : Act} {w : World} {Q : Exit → Act → World → Prop} (hg : o.guard = none) (t : TypeId) (parts : Array (Nat × Operand)) (ho : o.op = .build t parts) (cells : Array Value)
    (hc : P.built t (parts.map fun (i, x) => (i, a.eval x)).toList = some cells) (h : wpList P ops Q rest (a.put o.dst (.agg cells)) w) : wpList P ops Q (o :: rest) a w :=
  wpList_build hg t parts ho (by rw [hc]; rfl) (by rw [hc]; exact h)
theorem built55 : Tryd.prog.built 96 [(0, .agg (cs Sh.first))] = some (sts Sh.first (List.replicate 64 0) 0) := by kernel_rfl
theorem st_new (w : World) : St (w.alloc (.cells (sts Sh.first (List.replicate 64 0) 0) 96)) w.heap.size [] := ⟨List.replicate 64 0, by simp, by simp, heap_alloc_new _ _⟩
set_option maxRecDepth 100000 in
theorem new_any (w : World) : Calls Tryd.prog 39 #[] w fun e w' => ∃ b, e = .returned (.pointer (some ⟨b, 0, none⟩)) ∧ w.heap.size ≤ b ∧ St w' b [] ∧ Below w.heap.size w w' := by
  go_enter Tryd.func39, Tryd.ntmps39
  go_wp2_with fail
  refine (first_any _).mono ?_
  rintro e w1 ⟨rfl, hb1⟩
  rename_i K hK
  refine hK _ _ ?_
  clear hK
  refine wpList_built rfl 96 #[(0, .tmp 1)] rfl (sts Sh.first (List.replicate 64 0) 0) (by kernel_rfl) ?_
  go_wp2
  go_ret
  exact ⟨w1.heap.size, rfl, hb1.size, st_new w1, hb1.alloc hb1.size _⟩

set_option maxHeartbeats 1000000 in
set_option maxRecDepth 100000 in
theorem copy_any (w : World) (b : Nat) (l : List UInt8) (h : St w b l) : Calls Tryd.prog 56 #[.pointer (some ⟨b, 0, none⟩)] w fun e w' => e = .returned (.pointer (some ⟨w.heap.size, 0, none⟩)) ∧ St w' w.heap.size l ∧ Below w.heap.size w w' := by
  have hlt := h.lt
  obtain ⟨r, h1, h2, hg⟩ := h
  have hi := info55 (Sh.chain l (l.length / 64)) r l.length h1
  have ho := sts_one (Sh.chain l (l.length / 64)) r l.length
  have hsz := sts_size (Sh.chain l (l.length / 64)) r l.length h1
  have hst : ∀ w' : World, w'.heap[w.heap.size]? = some (.cells (sts (Sh.chain l (l.length / 64)) r l.length) 96 (0, 0)) → St w' w.heap.size l := fun w' h' => ⟨r, h1, h2, h'⟩
  generalize sts (Sh.chain l (l.length / 64)) r l.length = C at *
  have HG := Lib.hid hg
  have HI := Lib.hid hi
  have HO := Lib.hid ho
  have HST := Lib.hid hst
  have HSZ := Lib.hid hsz
  clear hg hi ho hst h1 h2 hsz
  have hz : ∀ w : World, (zeroValue 96).run Tryd.prog w = .ok (.agg (sts ⟨0, 0, 0, 0, 0⟩ (List.replicate 64 0) 0)) w := fun w => by kernel_rfl
  have hzs := sts_size ⟨0, 0, 0, 0, 0⟩ (List.replicate 64 0) 0 (by simp)
  generalize sts ⟨0, 0, 0, 0, 0⟩ (List.replicate 64 0) 0 = Z at *
  have HN := Lib.hid (heap_alloc_new w (.cells Z 96))
  have HZ := Lib.hid (show Z.size = C.size by rw [hzs, HSZ.out])
  clear hzs
  go_enter Tryd.func56, Tryd.ntmps56
  go_wp2_with (first
    | (with_reducible refine wpList_load_row rfl 96 (.tmp 5) rfl b rfl 96 C (0, 0) _ HG.out Tryd.underlying96 rfl HI.out ?_)
    | (with_reducible refine wpList_store_row rfl 96 (.tmp 3) (.tmp 6) rfl w.heap.size C rfl rfl 96 Z HN.out HI.out HZ.out HO.out ?_))
  go_ret
  refine ⟨rfl, HST.out _ (setRow_heap _ _ _ _ _ _ HN.out), below_setRow ((Below.refl _ w).alloc (Nat.le_refl _) _) (Nat.le_refl _) _⟩
end Go.Proofs.YtmbbigmnliiadaaDoor.Hp
namespace Go.Proofs.YtmbbigmnliiadaaDoor.Hp
open Go.RowKit Hs
set_option linter.unusedVariables false

theorem drop_take_append (l p : List UInt8) (i n : Nat) (h : i + n ≤ l.length) : ((l ++ p).drop i).take n = (l.drop i).take n := by
  rw [List.drop_append_of_le_length (by omega), List.take_append_of_le_length (by simp; omega)]
theorem chain_append (l p : List UInt8) : ∀ k, 64 * k ≤ l.length → Sh.chain (l ++ p) k = Sh.chain l k
  | 0, _ => rfl
  | k + 1, h => by
    rw [Sh.chain, Sh.chain, chain_append l p k (by omega), drop_take_append l p (64 * k) 64 (by omega)]
theorem chain_snoc (l p : List UInt8) (k : Nat) (h : 64 * k ≤ l.length) : Sh.chain (l ++ p) (k + 1) = Sh.press (Sh.chain l k) (((l ++ p).drop (64 * k)).take 64) := by
  rw [Sh.chain, chain_append l p k h]

/-- copying bytes into a row: as many as there is room for -/
theorem run_copy_bytes {P : Program} (w : World) (dT sT ty elem : TypeId) (g o dLen dCap : Nat) (s : ByteArray) (cur : Array Value) (t : TypeId)
    (hu : P.underlying dT = some (.slice elem)) (hs : (P.info? elem).map (·.size) = some 1) (hg : w.heap[g]? = some (.cells cur t (0, 0))) (n : Nat) (hn : n = min s.size dLen) (hfit : o + n ≤ cur.size) :
    (Builtin.copy_ #[dT, sT] ty #[.slice (some ⟨g, o, none⟩) dLen dCap, .string s]).run P w =
      .ok (.int .i64 n) (w.setRow g (cur.toList.take o ++ Lib.byteCells (s.data.toList.take n) ++ cur.toList.drop (o + n)).toArray) := by
  have hlen : (Lib.byteCells (s.data.toList.take n)).length = n := by rw [Lib.byteCells_length, List.length_take, ← Lib.size_eq]; omega
  have hst := run_storeCells_at P g o t (Lib.byteCells (s.data.toList.take n)) 0 cur w hg (by rw [hlen]; simpa using hfit) (Lib.byteCells_one _)
  have hmin : Nat.min s.size dLen = n := hn.symm
  have htk : List.take n (List.map (fun b : UInt8 => Value.int IntKind.u8 (b.toNat : Int)) s.data.toList) = Lib.byteCells (s.data.toList.take n) := by
    rw [← List.map_take]; rfl
  rw [hlen] at hst
  simp only [Nat.add_zero] at hst
  cases hq : P.info? elem with
  | none => simp [hq] at hs
  | some i =>
    simp [Builtin.copy_, run_underlying hu, Builtin.lenOf, Builtin.firstCells, sizeOf, typeInfo, hq, hmin]
    rw [htk, hst]
    simp [Result.andThen, goInt]
theorem byteCells_take (l : List UInt8) (n : Nat) : (Lib.byteCells l).take n = Lib.byteCells (l.take n) := by simp [Lib.byteCells, List.map_take]
theorem byteCells_drop (l : List UInt8) (n : Nat) : (Lib.byteCells l).drop n = Lib.byteCells (l.drop n) := by simp [Lib.byteCells, List.map_drop]
/-- .. into a state -/
theorem sts_copy (x : Sh.Ch) (r : List UInt8) (n h m : Nat) (p : List UInt8) (hr : r.length = 64) (hp : p.length = m) (hm : h + m ≤ 64) :
    ((sts x r n).toList.take (5 + h) ++ Lib.byteCells p ++ (sts x r n).toList.drop (5 + h + m)).toArray = sts x (r.take h ++ p ++ r.drop (h + m)) n := by
  have h5 := cs_len x
  have hb : (Lib.byteCells r).length = 64 := by rw [Lib.byteCells_length, hr]
  unfold sts
  congr 1
  simp only [List.append_assoc]
  rw [List.take_append, List.drop_append, h5, List.take_of_length_le (by omega), List.drop_eq_nil_of_le (by omega), show 5 + h - 5 = h by omega, show 5 + h + m - 5 = h + m by omega,
    List.take_append_of_le_length (by omega), List.drop_append_of_le_length (by omega), byteCells_take, byteCells_drop]
  simp [Lib.byteCells]

theorem wp_load_chain {o : Oper} {a : Act} {w : World} {K : Act → World → Prop} {Q : Exit → Act → World → Prop} (x : Operand) (ho : o.op = .load 70 x) (b : Nat) (hx : a.eval x = .pointer (some ⟨b, 0, none⟩))
    (X : Sh.Ch) (r : List UInt8) (n : Nat) (hg : w.heap[b]? = some (.cells (sts X r n) 96 (0, 0))) (h : K (a.put o.dst (.agg (cs X))) w) : o.wp Tryd.prog a w K Q := by
  unfold Oper.wp execOp
  simp only [ho, hx, Instr.loadAt, Instr.sureAddr, Sem.run_bind, Sem.run_pure, Result.andThen_ok, run_load_chain w b X r n (0, 0) hg]
  exact h
theorem wp_store_chain {o : Oper} {a : Act} {w : World} {K : Act → World → Prop} {Q : Exit → Act → World → Prop} (x y : Operand) (ho : o.op = .store 70 x y) (b : Nat) (Y : Sh.Ch) (hx : a.eval x = .pointer (some ⟨b, 0, none⟩)) (hy : a.eval y = .agg (cs Y))
    (X : Sh.Ch) (r : List UInt8) (n : Nat) (hg : w.heap[b]? = some (.cells (sts X r n) 96 (0, 0))) (h : K (a.put o.dst undef) (w.setRow b (sts Y r n))) : o.wp Tryd.prog a w K Q := by
  unfold Oper.wp execOp
  simp only [ho, hx, hy, Instr.storeAt, Instr.sureAddr, Sem.run_bind, Sem.run_pure, Result.andThen_ok, run_store_chain w b X Y r n hg]
  exact h
theorem sts_text (w : World) (b : Nat) (X : Sh.Ch) (r : List UInt8) (n : Nat) (hr : r.length = 64) (hg : w.heap[b]? = some (.cells (sts X r n) 96 (0, 0))) :
    (convert 41 9 (.slice (some ⟨b, 5, none⟩) 64 64)).run Tryd.prog w = .ok (.string ⟨r.toArray⟩) w := by
  have h := run_convert_bytes_arg w 41 5 Tryd.underlying41 Tryd.underlying5 b 5 64 64 (r.map fun c => (c.toNat : Int)) (by simp [hr]) (fun i hi => by
    rw [cell_of_row w b (5 + i) _ _ _ hg, sts_rest _ _ _ _ (by omega)]
    simp [List.getD, List.getElem?_eq_getElem (show i < r.length by omega)]) 9 Tryd.underlying9
  rw [h]
  simp [strOfNums, Function.comp_def]

theorem grown_setRow {w wr : World} {b : Nat} (h : w.grownBy wr (some b)) (cs : Array Value) : w.grownBy (wr.setRow b cs) (some b) :=
  ⟨h.os, h.tape, h.output, by simpa using h.size, fun k hk hne => (setRow_other _ _ _ _ (fun e => hne (by rw [e]))).trans (h.block k hk hne)⟩
theorem grown_below {w wr w1 : World} {b : Nat} (h : w.grownBy wr (some b)) (hb : Below wr.heap.size wr w1) : w.grownBy w1 (some b) :=
  ⟨hb.os.trans h.os, hb.tape.trans h.tape, hb.output.trans h.output, Nat.le_trans h.size hb.size, fun k hk hne => (hb.block k (Nat.lt_of_lt_of_le hk h.size)).trans (h.block k hk hne)⟩

/-- a state between: k blocks of L are in the chain, h bytes of the next lie in rest, P is what is still to be told -/
structure Mid (w wr : World) (b : Nat) (L : List UInt8) (k h : Nat) (P : ByteArray) : Prop where
  grown : w.grownBy wr (some b)
  row : ∃ r : List UInt8, r.length = 64 ∧ r.take h = (L.drop (64 * k)).take h ∧ wr.heap[b]? = some (.cells (sts (Sh.chain L k) r L.length) 96 (0, 0))
  pos : 64 * k + h + P.size = L.length
  text : P.data.toList = L.drop (64 * k + h)
  small : h = 0 ∨ h + P.size < 64
section
variable {w wr w1 : World} {b k h : Nat} {L : List UInt8} {P : ByteArray}
theorem extract_list (P : ByteArray) (i j : Nat) : (P.extract i j).data.toList = (P.data.toList.drop i).take (j - i) := by simp [List.extract_eq_take_drop]
/-- a block more -/
theorem Mid.block (hm : Mid w wr b L k h P) (h64 : 64 ≤ P.size) (hb : Below wr.heap.size wr w1) :
    ∃ r, r.length = 64 ∧ w1.heap[b]? = some (.cells (sts (Sh.chain L k) r L.length) 96 (0, 0)) ∧ Mid w (w1.setRow b (sts (Sh.press (Sh.chain L k) (P.extract 0 64).data.toList) r L.length)) b L (k + 1) 0 (P.extract 64 P.size) := by
  obtain ⟨hg, ⟨r, hr, hrt, hrow⟩, hpos, htext, hsmall⟩ := hm
  have h0 : h = 0 := by omega
  subst h0
  have hlt := (Array.getElem?_eq_some_iff.1 hrow).1
  have hrow1 : w1.heap[b]? = some (.cells (sts (Sh.chain L k) r L.length) 96 (0, 0)) := by rw [hb.block _ hlt]; exact hrow
  refine ⟨r, hr, hrow1, grown_setRow (grown_below hg hb) _, ⟨r, hr, by simp, ?_⟩, by rw [ByteArray.size_extract]; omega, ?_, .inl rfl⟩
  · rw [setRow_heap _ _ _ _ _ _ hrow1, extract_list, htext]
    rfl
  · rw [extract_list, htext, List.drop_drop, List.take_of_length_le (by simp; omega)]
    congr 1
/-- the last bytes are laid down -/
theorem Mid.done (hm : Mid w wr b L k h P) (h64 : P.size < 64) :
    ∃ cur : Array Value, wr.heap[b]? = some (.cells cur 96 (0, 0)) ∧ 5 + h + P.size ≤ cur.size ∧ St (wr.setRow b (cur.toList.take (5 + h) ++ Lib.byteCells (P.data.toList.take P.size) ++ cur.toList.drop (5 + h + P.size)).toArray) b L ∧
      ∀ c, w.grownBy (wr.setRow b c) (some b) := by
  obtain ⟨hg, ⟨r, hr, hrt, hrow⟩, hpos, htext, hsmall⟩ := hm
  have hk : L.length / 64 = k := by omega
  have hk2 : L.length % 64 = h + P.size := by omega
  have hPl : P.data.toList.length = P.size := by simp
  refine ⟨_, hrow, by rw [sts_size _ _ _ hr]; omega, ⟨r.take h ++ P.data.toList ++ r.drop (h + P.size), by simp [hr]; omega, ?_, ?_⟩, fun c => grown_setRow hg c⟩
  · have hl : (r.take h ++ P.data.toList).length = h + P.size := by simp [hr]; omega
    rw [hk, hk2, List.take_append_of_le_length (by omega), List.take_of_length_le (by omega), hrt, htext, ← List.drop_drop, List.take_append_drop]
  · rw [setRow_heap _ _ _ _ _ _ hrow, hk, List.take_of_length_le (l := P.data.toList) (by omega), sts_copy _ _ _ _ _ _ hr hPl (by omega)]
end
end Go.Proofs.YtmbbigmnliiadaaDoor.Hp
namespace Go.Proofs.YtmbbigmnliiadaaDoor.Hp
open Go.RowKit Hs
set_option linter.unusedVariables false

theorem fill_block (l p r : List UInt8) (q hd : Nat) (hl : l.length = 64 * q + hd) (h64 : hd ≤ 64) (hp : 64 ≤ hd + p.length) (hr : r.length = 64) (hrt : r.take hd = l.drop (64 * q)) :
    r.take hd ++ p.take (64 - hd) ++ r.drop (hd + (64 - hd)) = ((l ++ p).drop (64 * q)).take 64 := by
  rw [show r.drop (hd + (64 - hd)) = [] from List.drop_eq_nil_of_le (by omega), List.append_nil, hrt, List.drop_append_of_le_length (by omega), List.take_append, List.take_of_length_le (l := l.drop (64 * q)) (by rw [List.length_drop]; omega), List.length_drop]
  congr 2
  omega
theorem told_more {w : World} {b : Nat} {X : Sh.Ch} {r : List UInt8} {n : Nat} (m : Nat) (hr : r.length = 64) (hg : w.heap[b]? = some (.cells (sts X r n) 96 (0, 0))) :
    (w.setCell ⟨b, 69, none⟩ (.int .u64 m)).heap[b]? = some (.cells (sts X r m) 96 (0, 0)) := by
  rw [heap_setCell_same w b 69 _ _ _ hg, sts_set _ _ _ _ hr]
theorem grown_told (w : World) (b : Nat) (v : Value) : w.grownBy (w.setCell ⟨b, 69, none⟩ v) (some b) := Lib.grownBy_setCell w b 69 v

theorem tail_list (l p : List UInt8) (q hd m : Nat) (hl : l.length = 64 * q + hd) (hm : 64 - hd = m) (h64 : hd ≤ 64) : p.drop m = (l ++ p).drop (64 * (q + 1) + 0) := by
  rw [List.drop_append, show l.drop (64 * (q + 1) + 0) = [] from List.drop_eq_nil_of_le (by omega), List.nil_append]
  congr 1
  omega
theorem grown_drew {w wr w1 : World} {b : Nat} (h : w.grownBy wr (some b)) (hb : Below wr.heap.size wr.drew w1) : w.grownBy w1 (some b) :=
  grown_below h ⟨hb.os, hb.tape, hb.output, hb.size, hb.block⟩
theorem slice_from (w : World) (b h : Nat) (hh : h < 64) : (Instr.sliceAt 89 (.pointer (some ⟨b, 5, none⟩)) (some (.int .i64 h)) none none).run Tryd.prog w = .ok (.slice (some ⟨b, 5 + h, none⟩) (64 - h) (64 - h)) w := by
  have hl : Tryd.prog.arrayLen 89 = 64 := by kernel_rfl
  have he : Tryd.prog.elem 89 = 5 := by kernel_rfl
  rw [run_sliceAt_array_l (P := Tryd.prog) w 89 ⟨b, 5, none⟩ (by rw [hl, he]; exact Tryd.underlying89) .i64 h (by omega) (by rw [hl]; omega), hl, he, Tryd.sizeOf5]
  show Result.ok (slicedAt _ _ _ _ _) w = _
  rw [slicedAt, if_neg (by omega)]
  simp [Addr.add]
theorem slice_all (w : World) (b : Nat) : (Instr.sliceAt 89 (.pointer (some ⟨b, 5, none⟩)) none none none).run Tryd.prog w = .ok (.slice (some ⟨b, 5, none⟩) 64 64) w := by
  have hl : Tryd.prog.arrayLen 89 = 64 := by kernel_rfl
  have he : Tryd.prog.elem 89 = 5 := by kernel_rfl
  rw [run_sliceAt_array_all (P := Tryd.prog) w 89 ⟨b, 5, none⟩ (by rw [hl, he]; exact Tryd.underlying89), hl, he, Tryd.sizeOf5]
  simp [slicedAt, Addr.add]
theorem info5s : (Tryd.prog.info? 5).map (·.size) = some 1 := by kernel_rfl

set_option maxHeartbeats 2000000 in
set_option maxRecDepth 100000 in
theorem take_any (w : World) (b : Nat) (l : List UInt8) (p : ByteArray) (h : St w b l) (hs : l.length + p.size ≤ 10000000) :
    Calls Tryd.prog 55 #[.pointer (some ⟨b, 0, none⟩), .string p] w fun e w' => e = .returned (.tuple #[]) ∧ St w' b (l ++ p.data.toList) ∧ w.grownBy w' (some b) := by
  obtain ⟨r, hr, hrt, hg⟩ := h
  obtain ⟨q, hq⟩ : ∃ q, l.length / 64 = q := ⟨_, rfl⟩
  obtain ⟨hd, hhd⟩ : ∃ hd, l.length % 64 = hd := ⟨_, rfl⟩
  have hd64 : hd < 64 := by omega
  have hll : l.length = 64 * q + hd := by omega
  rw [hq] at hrt hg
  rw [hhd] at hrt
  have hpl : p.data.toList.length = p.size := by simp
  have hLl : (l ++ p.data.toList).length = l.length + p.size := by rw [List.length_append, hpl]
  have ct := cell_of_row w b 69 _ _ _ hg
  rw [sts_told _ _ _ hr] at ct
  have cf := frozen_of_row w b 69 _ _ hg
  have hrow := told_more (l.length + p.size) hr hg
  have hgr := grown_told w b (.int .u64 (l.length + p.size : Nat))
  rw [← chain_append l p.data.toList q (by omega)] at hrow
  have hmid : Mid w (w.setCell ⟨b, 69, none⟩ (.int .u64 (l.length + p.size : Nat))) b (l ++ p.data.toList) q hd p ∨ 64 ≤ hd + p.size ∧ 0 < hd := by
    by_cases h1 : 64 ≤ hd + p.size ∧ 0 < hd
    · exact .inr h1
    · refine .inl ⟨hgr, ⟨r, hr, ?_, ?_⟩, by rw [hLl]; omega, ?_, by omega⟩
      · rw [hrt, List.drop_append_of_le_length (by omega), List.take_append_of_le_length (by simp; omega), List.take_of_length_le (by simp; omega)]
      · rw [hLl]; exact hrow
      · rw [← hll, List.drop_left]
  generalize hn : l.length = n at *
  have HR := Lib.hid hrow
  have HGR := Lib.hid hgr
  have HMID := Lib.hid hmid
  have HLL := Lib.hid hLl
  have HRT := Lib.hid hrt
  have HHD := Lib.hid hhd
  have HQ := Lib.hid hq
  have HN := Lib.hid hn
  have hm0 : (n : Int) % 64 = hd := by omega
  have HL := Lib.hid hll
  clear hrow hgr hmid hLl hrt hhd hq hn hpl hg hll
  go_enter Tryd.func55, Tryd.ntmps55
  go_upto_region 2 with fail
  go_cut [30] (fun s30 wx => s30 = .bool (decide (64 ≤ hd + p.size ∧ 0 < hd)) ∧ wx = w.setCell ⟨b, 69, none⟩ (.int .u64 (n + p.size : Nat)))
  case first =>
    by_cases h0 : 0 < hd
    · have h0' : (0 : Int) < hd := by omega
      by_cases h1 : 64 ≤ hd + p.size
      · have h1' : (64 : Int) ≤ hd + p.size := by omega
        go_wp2
        go_meet
        exact ⟨by simp [h0, h1], rfl⟩
      · have h1' : ¬ (64 : Int) ≤ hd + p.size := by omega
        go_wp2
        go_meet
        exact ⟨by simp [h0, h1], rfl⟩
    · have h0' : ¬ (0 : Int) < hd := by omega
      go_wp2
      go_meet
      exact ⟨by simp [h0], rfl⟩
  case rest =>
    obtain ⟨rfl, rfl⟩ := hcut
    generalize hW1 : w.setCell ⟨b, 69, none⟩ (.int .u64 (n + p.size : Nat)) = w1 at *
    clear ct cf hW1
    go_upto_if 30 with fail
    go_cut [1, 4] (fun s1 s4 wx => ∃ (k h : Nat) (P : ByteArray), s1 = .string P ∧ s4 = .int .i64 h ∧ Mid w wx b (l ++ p.data.toList) k h P)
    case first =>
      by_cases hc : 64 ≤ hd + p.size ∧ 0 < hd
      · have hcb : decide (64 ≤ hd + p.size ∧ 0 < hd) = true := by simp [hc]
        obtain ⟨m, hm⟩ : ∃ m, 64 - hd = m := ⟨_, rfl⟩
        obtain ⟨o, ho⟩ : ∃ o, 5 + hd = o := ⟨_, rfl⟩
        have hsl := fun W => slice_from W b hd hd64
        rw [hm, ho] at hsl
        have hcp := fun ty => run_copy_bytes (P := Tryd.prog) w1 41 9 ty 5 b o m m p _ 96 Tryd.underlying41 info5s HR.out m (by omega) (by rw [sts_size _ _ _ hr]; omega)
        have hfb := fill_block l p.data.toList r q hd (by rw [HN.out, HL.out]) (by omega) (by simpa using hc.1) hr HRT.out
        rw [hm] at hfb
        rw [← ho, sts_copy _ _ _ _ _ _ hr (by simp; omega) (by omega), hfb] at hcp
        rw [ho] at hcp
        have hbl : (((l ++ p.data.toList).drop (64 * q)).take 64).length = 64 := by rw [← hfb]; simp [hr]; omega
        have hch : Sh.chain (l ++ p.data.toList) (q + 1) = Sh.press (Sh.chain (l ++ p.data.toList) q) (((l ++ p.data.toList).drop (64 * q)).take 64) := rfl
        generalize hBB : ((l ++ p.data.toList).drop (64 * q)).take 64 = B at *
        have hrow2 := setRow_heap _ _ _ (sts (Sh.chain (l ++ p.data.toList) q) B (n + p.size)) _ _ HR.out
        have hg2 : w.grownBy (w1.setRow b (sts (Sh.chain (l ++ p.data.toList) q) B (n + p.size))) (some b) := grown_setRow HGR.out _
        have HM := Lib.hid hm
        have HO := Lib.hid ho
        have HC := Lib.hid hch
        have HB := Lib.hid hbl
        have HR2 := Lib.hid hrow2
        have HG2 := Lib.hid hg2
        clear hm ho hfb hch hbl hrow2 hg2 hBB
        go_upto_region 4 with fail
        generalize w1.setRow b (sts (Sh.chain (l ++ p.data.toList) q) B (n + p.size)) = w2 at *
        have hcv := sts_text w2.drew b _ B _ HB.out HR2.out
        have hsa := fun W => slice_all W b
        have hblt := (Array.getElem?_eq_some_iff.1 HR2.out).1
        have hBs : (⟨B.toArray⟩ : ByteArray).size = 64 := by rw [Lib.size_eq]; simpa using HB.out
        have HBS := Lib.hid hBs
        have hmp : m ≤ p.size := by have := HM.out; omega
        clear hBs hcp hsl
        generalize Sh.chain (l ++ p.data.toList) q = X at *
        refine wp_region_any (by kernel_rfl) ?_
        change wpAny _ _ _ _ _ _ _ (World.drew _)
        refine wpAny_take (i := 0) (v := .pointer (some ⟨b, 0, none⟩)) rfl (by kernel_rfl) (by kernel_rfl) (by kernel_rfl) (fun _ _ _ h => h) (Or.inl ⟨by rfl, fun w => by go_simp⟩) ?_
        go_simp
        refine wpAny_take (i := 1) (v := .pointer (some ⟨b, 0, none⟩)) rfl (by kernel_rfl) (by kernel_rfl) (by kernel_rfl) (fun _ _ _ h => h) (Or.inl ⟨by rfl, fun w => by go_simp⟩) ?_
        go_simp
        refine wpAny_take (i := 2) (v := .pointer (some ⟨b, 0, none⟩)) rfl (by kernel_rfl) (by kernel_rfl) (by kernel_rfl) (fun _ _ _ h => h) (Or.inl ⟨by rfl, fun w => by go_simp⟩) ?_
        go_simp
        refine wpAny_take (i := 3) (v := .pointer (some ⟨b, 0, none⟩)) rfl (by kernel_rfl) (by kernel_rfl) (by kernel_rfl) (fun _ _ _ h => h) (Or.inl ⟨by rfl, fun w => by go_simp⟩) ?_
        go_simp
        refine wpAny_take (i := 5) (v := .pointer (some ⟨b, 0, none⟩)) rfl (by kernel_rfl) (by kernel_rfl) (by kernel_rfl) (fun _ _ _ h => h) (Or.inl ⟨by rfl, fun w => by go_simp⟩) ?_
        go_simp
        refine wpAny_take (i := 6) (v := .pointer (some ⟨b, 0, none⟩)) rfl (by kernel_rfl) (by kernel_rfl) (by kernel_rfl) (fun _ _ _ h => h) (Or.inl ⟨by rfl, fun w => by go_simp⟩) ?_
        go_simp
        refine wpAny_take (i := 7) (v := .pointer (some ⟨b, 5, none⟩)) rfl (by kernel_rfl) (by kernel_rfl) (by kernel_rfl) (fun _ _ _ h => h) (Or.inl ⟨by rfl, fun w => by go_simp⟩) ?_
        go_simp
        refine wpAny_take (i := 8) (v := .slice (some ⟨b, 5, none⟩) 64 64) rfl (by kernel_rfl) (by kernel_rfl) (by kernel_rfl) (fun _ _ _ h => h) (Or.inl ⟨by rfl, fun w => by go_simp⟩) ?_
        go_simp
        refine wpAny_ready (rs := [4, 9]) (by kernel_rfl) (by simp) ?_
        refine AllReady.cons rfl (fun K hK => ?_) (AllReady.cons rfl (fun K hK => ?_) AllReady.nil)
        · rw [if_pos (by rfl)]
          refine wp_load_chain (.tmp 41) rfl b rfl X B (n + p.size) HR2.out ?_
          refine hK _ _ ?_
          clear hK K
          go_simp
          refine wpAny_ready (rs := [9]) (by kernel_rfl) (by simp) ?_
          refine AllReady.cons rfl (fun K hK => ?_) AllReady.nil
          go_simp
          refine hK _ _ ?_
          clear hK K
          refine wpAny_ready (rs := [10]) (by kernel_rfl) (by simp) ?_
          refine AllReady.cons rfl (fun K hK => ?_) AllReady.nil
          go_simp
          refine (press_any X ⟨B.toArray⟩ _ (by rw [HBS.out]; omega)).mono ?_
          rintro e w3 ⟨rfl, hb3⟩
          refine hK _ _ ?_
          clear hK K
          refine wpAny_take (i := 11) (v := .pointer (some ⟨b, 0, none⟩)) rfl (by kernel_rfl) (by kernel_rfl) (by kernel_rfl) (fun _ _ _ h => h) (Or.inl ⟨by rfl, fun w => by go_simp⟩) ?_
          go_simp
          refine wpAny_take (i := 12) (v := .pointer (some ⟨b, 0, none⟩)) rfl (by kernel_rfl) (by kernel_rfl) (by kernel_rfl) (fun _ _ _ h => h) (Or.inl ⟨by rfl, fun w => by go_simp⟩) ?_
          go_simp
          refine wpAny_ready (rs := [13]) (by kernel_rfl) (by simp) ?_
          refine AllReady.cons rfl (fun K hK => ?_) AllReady.nil
          rw [if_pos (by rfl)]
          have hrow3 : w3.heap[b]? = some (.cells (sts X B (n + p.size)) 96 (0, 0)) := by rw [hb3.block _ hblt]; exact HR2.out
          refine wp_store_chain (.tmp 50) (.tmp 48) rfl b _ rfl rfl X B (n + p.size) hrow3 ?_
          refine hK _ _ ?_
          clear hK K
          go_simp
          refine wpAny_done (by kernel_rfl) ?_ _
          have hm3 : Mid w (w3.setRow b (sts (Sh.press X B) B (n + p.size))) b (l ++ p.data.toList) (q + 1) 0 (p.extract m p.size) := by
            refine ⟨grown_setRow (grown_drew HG2.out hb3) _, ⟨B, HB.out, by simp, ?_⟩, ?_, ?_, .inl rfl⟩
            · rw [setRow_heap _ _ _ _ _ _ hrow3, HC.out, HLL.out]
            · rw [ByteArray.size_extract, HLL.out, HL.out]; have := HM.out; omega
            · rw [extract_list, List.take_of_length_le (by simp)]
              exact tail_list l _ q hd m (HN.out.trans HL.out) HM.out (by omega)
          have HM3 := Lib.hid hm3
          clear hm3 hrow3 hb3
          go_wp2
          go_meet
          exact ⟨q + 1, 0, p.extract m p.size, rfl, rfl, HM3.out⟩
        · go_simp
          refine hK _ _ ?_
          clear hK K
          refine wpAny_ready (rs := [4]) (by kernel_rfl) (by simp) ?_
          refine AllReady.cons rfl (fun K hK => ?_) AllReady.nil
          rw [if_pos (by rfl)]
          refine wp_load_chain (.tmp 41) rfl b rfl X B (n + p.size) HR2.out ?_
          refine hK _ _ ?_
          clear hK K
          go_simp
          refine wpAny_ready (rs := [10]) (by kernel_rfl) (by simp) ?_
          refine AllReady.cons rfl (fun K hK => ?_) AllReady.nil
          go_simp
          refine (press_any X ⟨B.toArray⟩ _ (by rw [HBS.out]; omega)).mono ?_
          rintro e w3 ⟨rfl, hb3⟩
          refine hK _ _ ?_
          clear hK K
          refine wpAny_take (i := 11) (v := .pointer (some ⟨b, 0, none⟩)) rfl (by kernel_rfl) (by kernel_rfl) (by kernel_rfl) (fun _ _ _ h => h) (Or.inl ⟨by rfl, fun w => by go_simp⟩) ?_
          go_simp
          refine wpAny_take (i := 12) (v := .pointer (some ⟨b, 0, none⟩)) rfl (by kernel_rfl) (by kernel_rfl) (by kernel_rfl) (fun _ _ _ h => h) (Or.inl ⟨by rfl, fun w => by go_simp⟩) ?_
          go_simp
          refine wpAny_ready (rs := [13]) (by kernel_rfl) (by simp) ?_
          refine AllReady.cons rfl (fun K hK => ?_) AllReady.nil
          rw [if_pos (by rfl)]
          have hrow3 : w3.heap[b]? = some (.cells (sts X B (n + p.size)) 96 (0, 0)) := by rw [hb3.block _ hblt]; exact HR2.out
          refine wp_store_chain (.tmp 50) (.tmp 48) rfl b _ rfl rfl X B (n + p.size) hrow3 ?_
          refine hK _ _ ?_
          clear hK K
          go_simp
          refine wpAny_done (by kernel_rfl) ?_ _
          have hm3 : Mid w (w3.setRow b (sts (Sh.press X B) B (n + p.size))) b (l ++ p.data.toList) (q + 1) 0 (p.extract m p.size) := by
            refine ⟨grown_setRow (grown_drew HG2.out hb3) _, ⟨B, HB.out, by simp, ?_⟩, ?_, ?_, .inl rfl⟩
            · rw [setRow_heap _ _ _ _ _ _ hrow3, HC.out, HLL.out]
            · rw [ByteArray.size_extract, HLL.out, HL.out]; have := HM.out; omega
            · rw [extract_list, List.take_of_length_le (by simp)]
              exact tail_list l _ q hd m (HN.out.trans HL.out) HM.out (by omega)
          have HM3 := Lib.hid hm3
          clear hm3 hrow3 hb3
          go_wp2
          go_meet
          exact ⟨q + 1, 0, p.extract m p.size, rfl, rfl, HM3.out⟩
      · have hcb : decide (64 ≤ hd + p.size ∧ 0 < hd) = false := by simpa using hc
        go_wp2_with fail
        go_meet
        exact ⟨q, hd, p, rfl, rfl, HMID.out.resolve_right hc⟩
    case rest =>
      obtain ⟨k, h, P, rfl, rfl, hmid⟩ := hcut
      clear HR HGR HMID HRT HHD HQ HN HL hm0
      generalize hLL : l ++ p.data.toList = L at *
      have HLE := Lib.hid hLL
      have HM := Lib.hid hmid
      clear hmid hLL
      go_upto_block 0 with fail
      go_wp2_with fail
      go_loopg [1] P.size (fun g s1 wr => ∃ (k : Nat) (P : ByteArray), g = P.size ∧ s1 = .string P ∧ Mid w wr b L k h P)
      case atStart => exact ⟨k, P, rfl, rfl, HM.out⟩
      case round =>
        obtain ⟨k, P, rfl, rfl, hmid⟩ := hrel
        clear HM
        have hPs : P.size ≤ 10000000 := by have := hmid.pos; rw [HLL.out] at this; omega
        by_cases h64 : 64 ≤ P.size
        · have h64' : (64 : Int) ≤ P.size := by omega
          have hblk := fun w1 => hmid.block (w1 := w1) h64
          have HH0 := Lib.hid (show h = 0 by rcases hmid.small with h1 | h1 <;> omega)
          obtain ⟨r', hr', hrt', hrow'⟩ := hmid.row
          have hblt := (Array.getElem?_eq_some_iff.1 hrow').1
          generalize hX : Sh.chain L k = X at *
          have HROW := Lib.hid hrow'
          have HBK := Lib.hid hblk
          have HX := Lib.hid hX
          clear hrow' hblk hX hrt' hmid
          go_wp2_with fail
          refine wp_region_any (by kernel_rfl) ?_
          change wpAny _ _ _ _ _ _ _ (World.drew _)
          refine wpAny_take (i := 0) (v := .pointer (some ⟨b, 0, none⟩)) rfl (by kernel_rfl) (by kernel_rfl) (by kernel_rfl) (fun _ _ _ h => h) (Or.inl ⟨by rfl, fun w => by go_simp⟩) ?_
          go_simp
          refine wpAny_take (i := 1) (v := .pointer (some ⟨b, 0, none⟩)) rfl (by kernel_rfl) (by kernel_rfl) (by kernel_rfl) (fun _ _ _ h => h) (Or.inl ⟨by rfl, fun w => by go_simp⟩) ?_
          go_simp
          refine wpAny_take (i := 2) (v := .pointer (some ⟨b, 0, none⟩)) rfl (by kernel_rfl) (by kernel_rfl) (by kernel_rfl) (fun _ _ _ h => h) (Or.inl ⟨by rfl, fun w => by go_simp⟩) ?_
          go_simp
          refine wpAny_take (i := 3) (v := .pointer (some ⟨b, 0, none⟩)) rfl (by kernel_rfl) (by kernel_rfl) (by kernel_rfl) (fun _ _ _ h => h) (Or.inl ⟨by rfl, fun w => by go_simp⟩) ?_
          go_simp
          refine wpAny_take (i := 5) (v := .string P) rfl (by kernel_rfl) (by kernel_rfl) (by kernel_rfl) (fun _ _ _ h => h) (Or.inl ⟨by rfl, fun w => by go_simp⟩) ?_
          go_simp
          refine wpAny_take (i := 6) (v := .string (P.extract 0 64)) rfl (by kernel_rfl) (by kernel_rfl) (by kernel_rfl) (fun _ _ _ h => h) (Or.inl ⟨by rfl, fun w => by go_simp⟩) ?_
          go_simp
          refine wpAny_ready (rs := [4]) (by kernel_rfl) (by simp) ?_
          refine AllReady.cons rfl (fun K hK => ?_) AllReady.nil
          rw [if_pos (by rfl)]
          refine wp_load_chain (.tmp 60) rfl b rfl X r' L.length HROW.out ?_
          refine hK _ _ ?_
          clear hK K
          go_simp
          refine wpAny_ready (rs := [7]) (by kernel_rfl) (by simp) ?_
          refine AllReady.cons rfl (fun K hK => ?_) AllReady.nil
          go_simp
          refine (press_any X (P.extract 0 64) _ (by rw [ByteArray.size_extract]; omega)).mono ?_
          rintro e w3 ⟨rfl, hb3⟩
          refine hK _ _ ?_
          clear hK K
          refine wpAny_take (i := 8) (v := .pointer (some ⟨b, 0, none⟩)) rfl (by kernel_rfl) (by kernel_rfl) (by kernel_rfl) (fun _ _ _ h => h) (Or.inl ⟨by rfl, fun w => by go_simp⟩) ?_
          go_simp
          refine wpAny_take (i := 9) (v := .pointer (some ⟨b, 0, none⟩)) rfl (by kernel_rfl) (by kernel_rfl) (by kernel_rfl) (fun _ _ _ h => h) (Or.inl ⟨by rfl, fun w => by go_simp⟩) ?_
          go_simp
          refine wpAny_ready (rs := [10]) (by kernel_rfl) (by simp) ?_
          refine AllReady.cons rfl (fun K hK => ?_) AllReady.nil
          rw [if_pos (by rfl)]
          obtain ⟨r2, hr2, hrow2, hmid2⟩ := HBK.out w3 ⟨hb3.os, hb3.tape, hb3.output, hb3.size, hb3.block⟩
          refine wp_store_chain (.tmp 66) (.tmp 64) rfl b _ rfl rfl X r2 L.length hrow2 ?_
          refine hK _ _ ?_
          clear hK K
          go_simp
          refine wpAny_done (by kernel_rfl) ?_ _
          have HM2 := Lib.hid hmid2
          clear hmid2 hrow2 hb3
          go_wp2
          go_roundg (P.extract 64 P.size).size
          case rel =>
            refine ⟨k + 1, P.extract 64 P.size, rfl, rfl, ?_⟩
            have h3 := HM2.out
            rw [show (P.extract 0 64).data.toList = P.data.toList.take 64 by rw [extract_list]; rfl] at h3
            rw [HH0.out]
            exact h3
          case measure => rw [ByteArray.size_extract]; omega
        · have h64' : ¬ (64 : Int) ≤ P.size := by omega
          have hh64 : h < 64 := by rcases hmid.small with h1 | h1 <;> omega
          have hfit := hmid.small
          obtain ⟨cur, hrow, hsz, hst, hgr⟩ := hmid.done (by omega)
          obtain ⟨m, hm⟩ : ∃ m, 64 - h = m := ⟨_, rfl⟩
          obtain ⟨o, ho⟩ : ∃ o, 5 + h = o := ⟨_, rfl⟩
          have hsl := fun W => slice_from W b h hh64
          rw [hm, ho] at hsl
          have hcp := fun ty => run_copy_bytes (P := Tryd.prog) wr 41 9 ty 5 b o m m P _ 96 Tryd.underlying41 info5s hrow P.size (by omega) (by rw [← ho]; exact hsz)
          rw [ho] at hst
          have HST := Lib.hid hst
          have HGR := Lib.hid hgr
          clear hm ho hst hgr hrow hsz hfit hmid
          go_wp2
          rw [← List.append_assoc]
          refine bodyPost_end (v := .tuple #[]) (by simp [results, Tryd.results55]) rfl ⟨rfl, ?_, HGR.out _⟩
          rw [HLE.out]
          exact HST.out
end Go.Proofs.YtmbbigmnliiadaaDoor.Hp
