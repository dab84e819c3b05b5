/-
  Contracts of the program's Sum, More, written and Seal (package crc).
-/
import Derived.Test.YtkaniccmdjbkdaaCb
import Derived.Laws.BytesArg
namespace Go.Proofs.Ytkaniccmdjbkdaa.Hc
open Go.RowKit Hs
set_option linter.unusedVariables false
attribute [local go_sem] t_and t_or t_xor t_not t_add t_sub t_add_wrap t_sub_wrap

theorem flat_take (ss : List ByteArray) (k : Nat) (h : k < ss.length) : (bls (ss.take (k + 1))).flatten = (bls (ss.take k)).flatten ++ bl (ss.getD k ByteArray.empty) := by
  rw [List.take_add_one, bls, bls, List.map_append, List.flatten_append]
  simp [List.getElem?_eq_getElem h, List.getD]
theorem str_append (s : ByteArray) (l : List UInt8) : s ++ str l = str (bl s ++ l) := by
  apply bl_inj
  rw [bl_append, bl_str, bl_str]

/-- the table as it lies behind 'm := table()' -/
theorem tab_laid {w w1 : World} (hb : Below w.heap.size w w1) : ((w1.alloc (.cells (tw 0) 38)).setRow w1.heap.size (tw 256)).heap[w1.heap.size]? = some (.cells (tw 256) 38 (0, 0)) :=
  setRow_heap _ _ _ _ _ _ (heap_alloc_new _ _)
theorem tab_below {w w1 : World} (hb : Below w.heap.size w w1) : Below w.heap.size w ((w1.alloc (.cells (tw 0) 38)).setRow w1.heap.size (tw 256)) :=
  below_setRow (hb.alloc hb.size _) hb.size _

set_option maxHeartbeats 1000000 in
set_option maxRecDepth 100000 in
theorem more_any (x : UInt32) (s : ByteArray) (w : World) (hs : s.size ≤ 100000) :
    Calls Try.prog 10 #[.int .u32 (tn x), .string s] w fun e w' => e = .returned (.int .u32 (tn (Cr.more x (bl s)))) ∧ Below w.heap.size w w' := by
  have hz := tz
  go_enter Try.func10, Try.ntmps10
  go_wp2_with fail
  refine (table_any _).mono ?_
  rintro e w1 ⟨rfl, hb⟩
  have HL := Lib.hid (tab_laid hb)
  have HB := Lib.hid (tab_below hb)
  clear hb
  go_wp2_with (first
    | (with_reducible refine wpList_store_row rfl 38 (.tmp 5) (.tmp 6) rfl w1.heap.size (tw 256) rfl rfl 38 (tw 0) (heap_alloc_new _ _) (info_tw 256) (by rw [tw_size, tw_size]) (tw_one 256) ?_)
    | fail)
  clear hz
  generalize (w1.alloc (.cells (tw 0) 38)).setRow w1.heap.size (tw 256) = w2 at *
  generalize w1.heap.size = g at *
  refine (add_any g x s w2 hs HL.out).mono ?_
  rintro e w3 ⟨rfl, hb3⟩
  have HB3 := Lib.hid (HB.out.trans (hb3.mono HB.out.size))
  clear hb3
  go_wp2
  go_ret
  exact ⟨rfl, HB3.out⟩

set_option maxHeartbeats 1000000 in
set_option maxRecDepth 100000 in
theorem sum_any (A : Option Addr) (B c : Nat) (ss : List ByteArray) (w : World) (hS : Strs w B A ss) (hB : B ≤ w.heap.size) (hn : ss.length ≤ 100000) (hz0 : ∀ i, i < ss.length → (ss.getD i ByteArray.empty).size ≤ 100000) :
    Calls Try.prog 8 #[.slice A ss.length c] w fun e w' => e = .returned (.int .u32 (tn (Cr.sum (bls ss).flatten))) ∧ Below w.heap.size w w' := by
  have hz := tz
  have HS := Lib.hid hS
  have HZ := Lib.hid hz0
  clear hS hz0
  go_enter Try.func8, Try.ntmps8
  go_wp2_with fail
  refine (table_any _).mono ?_
  rintro e w1 ⟨rfl, hb⟩
  have HL := Lib.hid (tab_laid hb)
  have HB := Lib.hid (tab_below hb)
  have hlt : w1.heap.size < ((w1.alloc (.cells (tw 0) 38)).setRow w1.heap.size (tw 256)).heap.size := (Array.getElem?_eq_some_iff.1 HL.out).1
  have HT := Lib.hid hlt
  clear hb hlt
  go_wp2_with (first
    | (with_reducible refine wpList_store_row rfl 38 (.tmp 3) (.tmp 7) rfl w1.heap.size (tw 256) rfl rfl 38 (tw 0) (heap_alloc_new _ _) (info_tw 256) (by rw [tw_size, tw_size]) (tw_one 256) ?_)
    | fail)
  clear hz
  generalize (w1.alloc (.cells (tw 0) 38)).setRow w1.heap.size (tw 256) = w2 at *
  generalize w1.heap.size = g at *
  go_loopg [10, 4] ss.length (fun gk i v wr => ∃ k : Nat, k ≤ ss.length ∧ gk = ss.length - k ∧ i = .int .i64 k ∧ v = .int .u32 (tn (Cr.sum (bls (ss.take k)).flatten)) ∧ wr.heap[g]? = some (.cells (tw 256) 38 (0, 0)) ∧ Below w.heap.size w wr)
  case atStart => exact ⟨0, Nat.zero_le _, rfl, rfl, by rw [show Cr.sum (bls (ss.take 0)).flatten = 0 from Cr.more_nil 0]; rfl, HL.out, HB.out⟩
  case round =>
    obtain ⟨k, hk, rfl, rfl, rfl, hg, hb⟩ := hrel
    clear HL HB HT
    by_cases hlt : k < ss.length
    · have h1 : (k : Int) < ss.length := by omega
      have h0 : (0 : Int) ≤ k := by omega
      obtain ⟨ad, rfl, hblk, hc⟩ := HS.out k hlt
      have hc1 : wr.cell? (ad.add k) = some (.string (ss.getD k ByteArray.empty)) := by rw [hb.cell (by rw [block_of_add]; omega)]; exact hc
      have hfl := flat_take ss k hlt
      have hzk := HZ.out k hlt
      generalize ss.getD k ByteArray.empty = y at *
      have hmo := Cr.more_sum (bls (ss.take k)).flatten (bl y)
      rw [← hfl] at hmo
      generalize Cr.sum (bls (ss.take k)).flatten = X at *
      have HMO := Lib.hid hmo
      have HG := Lib.hid hg
      have HB := Lib.hid hb
      have hgl := (Array.getElem?_eq_some_iff.1 hg).1
      have HGL := Lib.hid hgl
      clear hc hfl hmo hg hb hgl
      go_wp2_with (go_at_call 15; refine (add_any g X y _ hzk HG.out).mono ?_; rintro e w3 ⟨rfl, hb3⟩)
      have HB3 := Lib.hid hb3
      clear hb3
      go_roundg (ss.length - (k + 1))
      case rel => exact ⟨k + 1, by omega, rfl, by go_num, by rw [HMO.out], by rw [HB3.out.block _ HGL.out]; exact HG.out, HB.out.trans (HB3.out.mono HB.out.size)⟩
      case measure => omega
    · obtain rfl : k = ss.length := by omega
      have h1 : ¬ ((ss.length : Int) < ss.length) := by omega
      rw [List.take_length]
      go_wp2
      go_ret
      exact ⟨rfl, hb⟩

theorem conv4 (w : World) (a b c d : UInt8) (va vb vc vd : Int) (ha : va = a.toNat) (hb : vb = b.toNat) (hc : vc = c.toNat) (hd : vd = d.toNat) :
    (convert 41 9 (.slice (some ⟨w.heap.size, 0, none⟩) 4 4)).run Try.prog (w.alloc (.cells #[.int .u8 va, .int .u8 vb, .int .u8 vc, .int .u8 vd] 5)) = .ok (.string (str [a, b, c, d])) (w.alloc (.cells #[.int .u8 va, .int .u8 vb, .int .u8 vc, .int .u8 vd] 5)) := by
  subst ha hb hc hd
  rw [run_convert_bytes_arg (w.alloc (.cells #[.int .u8 (a.toNat : Int), .int .u8 (b.toNat : Int), .int .u8 (c.toNat : Int), .int .u8 (d.toNat : Int)] 5)) 41 5 Try.underlying41 Try.underlying5 w.heap.size 0 4 4 [(a.toNat : Int), (b.toNat : Int), (c.toNat : Int), (d.toNat : Int)] rfl (fun i hi => by
    rw [cell_of_row _ _ _ _ _ _ (heap_alloc_new w _)]
    match i, hi with
    | 0, _ => rfl
    | 1, _ => rfl
    | 2, _ => rfl
    | 3, _ => rfl) 9 Try.underlying9]
  simp [strOfNums, str]
theorem b_u8 (x : UInt32) (n : Nat) : tn x / (n : Int) % 256 = ((UInt8.ofNat (x.toNat / n)).toNat : Int) := by
  rw [UInt8.toNat_ofNat']
  unfold tn
  have : ((x.toNat / n : Nat) : Int) = (x.toNat : Int) / (n : Int) := Int.natCast_ediv _ _
  rw [← this]
  omega
theorem b24 (x : UInt32) : tn x / (16777216 : Int) = ((UInt8.ofNat (x.toNat / 16777216)).toNat : Int) := by
  have h := b_u8 x 16777216
  have h1 := tn_lt x
  have h0 := tn_nonneg x
  rw [← h]
  omega
theorem b16 (x : UInt32) : tn x / (65536 : Int) % 256 = ((UInt8.ofNat (x.toNat / 65536)).toNat : Int) := b_u8 x 65536
theorem b8 (x : UInt32) : tn x / (256 : Int) % 256 = ((UInt8.ofNat (x.toNat / 256)).toNat : Int) := b_u8 x 256
theorem b0 (x : UInt32) : tn x % (256 : Int) = ((UInt8.ofNat x.toNat).toNat : Int) := by
  rw [UInt8.toNat_ofNat']
  unfold tn
  omega
/-- the four bytes of a word, laid and told -/
theorem conv_word (w : World) (x : UInt32) : (convert 41 9 (.slice (some ⟨w.heap.size, 0, none⟩) 4 4)).run Try.prog (w.alloc (.cells #[.int .u8 (tn x / 16777216), .int .u8 (tn x / 65536 % 256), .int .u8 (tn x / 256 % 256), .int .u8 (tn x % 256)] 5)) = .ok (.string (str (Cr.be4 x))) (w.alloc (.cells #[.int .u8 (tn x / 16777216), .int .u8 (tn x / 65536 % 256), .int .u8 (tn x / 256 % 256), .int .u8 (tn x % 256)] 5)) :=
  conv4 w _ _ _ _ _ _ _ _ (b24 x) (b16 x) (b8 x) (b0 x)

set_option maxHeartbeats 1000000 in
theorem written_any (x : UInt32) (w : World) : Calls Try.prog 13 #[.int .u32 (tn x)] w fun e w' => e = .returned (.string (str (Cr.be4 x))) ∧ Below w.heap.size w w' := by
  have hc := conv_word w x
  have hx := tn_lt x
  have hx0 := tn_nonneg x
  have HB := Lib.hid ((Below.refl _ w).alloc (Nat.le_refl _) (.cells #[.int .u8 (tn x / 16777216), .int .u8 (tn x / 65536 % 256), .int .u8 (tn x / 256 % 256), .int .u8 (tn x % 256)] 5))
  go_enter Try.func13, Try.ntmps13
  go_wp2
  go_ret
  exact ⟨rfl, HB.out⟩

/-- a row of strings that was laid just now -/
theorem strs1 (w : World) (s : ByteArray) : Strs (w.alloc (.cells #[.string s] 9)) (w.heap.size + 1) (some ⟨w.heap.size, 0, none⟩) [s] := fun i hi => by
  have h0 : i = 0 := by simp at hi; omega
  subst h0
  exact ⟨_, rfl, Nat.lt_succ_self _, by rw [show (⟨w.heap.size, 0, none⟩ : Addr).add 0 = ⟨w.heap.size, 0, none⟩ by unfold Addr.add; split <;> simp_all, cell_of_row _ _ 0 _ _ _ (heap_alloc_new w _)]; rfl⟩
theorem strs2 (w : World) (s t : ByteArray) : Strs (w.alloc (.cells #[.string s, .string t] 9)) (w.heap.size + 1) (some ⟨w.heap.size, 0, none⟩) [s, t] := fun i hi => by
  have hadd : ∀ j, (⟨w.heap.size, 0, none⟩ : Addr).add j = ⟨w.heap.size, j, none⟩ := fun j => by unfold Addr.add; split <;> simp_all
  refine ⟨_, rfl, Nat.lt_succ_self _, ?_⟩
  rw [hadd, cell_of_row _ _ i _ _ _ (heap_alloc_new w _)]
  match i, hi with
  | 0, _ => rfl
  | 1, _ => rfl
theorem sum_strs1 {W : World} {g c : Nat} {s : ByteArray} (h : Strs W (g + 1) (some ⟨g, 0, none⟩) [s]) (hg : g < W.heap.size) (hs : s.size ≤ 100000) :
    Calls Try.prog 8 #[.slice (some ⟨g, 0, none⟩) 1 c] W fun e w' => e = .returned (.int .u32 (tn (Cr.sum (bl s)))) ∧ Below W.heap.size W w' := by
  have h1 := sum_any (some ⟨g, 0, none⟩) (g + 1) c [s] W h hg (by simp) (fun i hi => by
    match i, hi with
    | 0, _ => exact hs)
  simpa [bls] using h1
theorem sum_strs2 {W : World} {g c : Nat} {s t : ByteArray} (h : Strs W (g + 1) (some ⟨g, 0, none⟩) [s, t]) (hg : g < W.heap.size) (hs : s.size ≤ 100000) (ht : t.size ≤ 100000) :
    Calls Try.prog 8 #[.slice (some ⟨g, 0, none⟩) 2 c] W fun e w' => e = .returned (.int .u32 (tn (Cr.sum (bl s ++ bl t)))) ∧ Below W.heap.size W w' := by
  have h1 := sum_any (some ⟨g, 0, none⟩) (g + 1) c [s, t] W h hg (by simp) (fun i hi => by
    match i, hi with
    | 0, _ => exact hs
    | 1, _ => exact ht)
  simpa [bls] using h1
theorem sum_one (w : World) (s : ByteArray) (hs : s.size ≤ 100000) : Calls Try.prog 8 #[.slice (some ⟨w.heap.size, 0, none⟩) 1 1] (w.alloc (.cells #[.string s] 9)) fun e w' => e = .returned (.int .u32 (tn (Cr.sum (bl s)))) ∧ Below w.heap.size w w' :=
  (sum_strs1 (strs1 w s) (by simp) hs).mono fun e w' ⟨he, hb⟩ => ⟨he, ((Below.refl _ w).alloc (Nat.le_refl _) _).trans (hb.mono (by simp))⟩
theorem sum_two (w : World) (s t : ByteArray) (hs : s.size ≤ 100000) (ht : t.size ≤ 100000) : Calls Try.prog 8 #[.slice (some ⟨w.heap.size, 0, none⟩) 2 2] (w.alloc (.cells #[.string s, .string t] 9)) fun e w' => e = .returned (.int .u32 (tn (Cr.sum (bl s ++ bl t)))) ∧ Below w.heap.size w w' :=
  (sum_strs2 (strs2 w s t) (by simp) hs ht).mono fun e w' ⟨he, hb⟩ => ⟨he, ((Below.refl _ w).alloc (Nat.le_refl _) _).trans (hb.mono (by simp))⟩

theorem be4_size (x : UInt32) : (str (Cr.be4 x)).size = 4 := by rw [str_size]; rfl
theorem sealed_eq (s : ByteArray) (x : UInt32) (h : x = Cr.sum (bl s)) : s ++ str (Cr.be4 x) = str (Cr.sealed (bl s)) := by
  subst h
  rw [str_append]; rfl

set_option maxHeartbeats 1000000 in
set_option maxRecDepth 100000 in
theorem seal_any (s : ByteArray) (w : World) (hs : s.size ≤ 100000) : Calls Try.prog 11 #[.string s] w fun e w' => e = .returned (.string (str (Cr.sealed (bl s)))) ∧ Below w.heap.size w w' := by
  have HE := Lib.hid (sealed_eq s _ rfl)
  have hz := be4_size (Cr.sum (bl s))
  have hz2 : (str (Cr.be4 (Cr.sum (bl s)))).size ≤ 100000 := by omega
  have HC := Lib.hid (sum_one w s hs)
  generalize Cr.sum (bl s) = X at *
  have HW := Lib.hid (written_any X)
  generalize str (Cr.be4 X) = T at *
  clear hz
  go_enter Try.func11, Try.ntmps11
  go_wp2_with (first
    | (go_at_call 8; refine HC.out.mono ?_; rintro e w1 ⟨rfl, hb1⟩)
    | (go_at_call 13; refine (HW.out _).mono ?_; rintro e w2 ⟨rfl, hb2⟩))
  go_ret
  exact ⟨by rw [HE.out]; rfl, hb1.trans (hb2.mono hb1.size)⟩
end Go.Proofs.Ytkaniccmdjbkdaa.Hc
