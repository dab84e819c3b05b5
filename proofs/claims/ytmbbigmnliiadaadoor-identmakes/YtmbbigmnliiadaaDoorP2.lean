/-
  Contracts of the program's noughts, length and Write (package sha1).
  Contracts of the program's (*State).Sum and Sum (package sha1).
  The statements' own awake (layer 2): true.
-/
import Derived.Test.YtmbbigmnliiadaaDoorP1
import Derived.Test.YtmbbigmnliiadaaDoorLay
import Derived.Test.YtmbbigmnliiadaaDoorB1
import Derived.Deep.DeepFit
namespace Go.Proofs.YtmbbigmnliiadaaDoor.Hp
open Go.RowKit Hs
set_option linter.unusedVariables false

theorem noughts_any (n : Nat) (w : World) (hn : n ≤ 20000000) :
    Calls Tryd.prog 57 #[.int .u64 (n + 1 : Nat)] w fun e w' => e = .returned (.string ⟨(List.replicate (Sh.nought n) (0 : UInt8)).toArray⟩) ∧ Below w.heap.size w w' := by
  obtain ⟨m, hm⟩ : ∃ m, n + 1 = m := ⟨_, rfl⟩
  have hk : Sh.nought n < 64 := Nat.mod_lt _ (by omega)
  have hw : wrap64 ((IntKind.u64.wrap (56 - (m : Int))).tmod 64) = (Sh.nought n : Int) := by
    have e1 : IntKind.u64.wrap (56 - (m : Int)) = (56 - (m : Int)) % 18446744073709551616 := by simp [IntKind.wrap, IntKind.bits, IntKind.signed]
    rw [e1, Int.tmod_eq_emod_of_nonneg (Int.emod_nonneg _ (by omega))]
    unfold wrap64 Sh.nought
    omega
  rw [hm]
  generalize hK : Sh.nought n = K at *
  have HM := Lib.hid hm
  have HK := Lib.hid hK
  clear hm hK
  have hrep := fun W => Tryd.strings_Repeat ⟨#[0]⟩ K W (by omega) (by show 1 * K ≤ _; omega)
  have hl : Lib.repeatL (ByteArray.mk #[0]).data.toList K = List.replicate K 0 := by
    have := Lib.repeatL_replicate 0 1 K
    rw [Nat.mul_one] at this
    exact this
  rw [hl] at hrep
  go_enter Tryd.func57, Tryd.ntmps57
  go_wp2_with (go_at_call 72; go_fit (hrep _); rintro e w1 ⟨rfl, hb1⟩)
  go_ret
  exact ⟨rfl, hb1⟩

theorem byte_at (n : Nat) (k : Nat) : ((Sh.byteOf n k).toNat : Int) = (n : Int) / 2 ^ (8 * k) % 256 := by
  rw [Sh.byteOf, UInt8.toNat_ofNat', Nat.mod_eq_of_lt (show n / 2 ^ (8 * k) % 256 < 2 ^ 8 from Nat.mod_lt _ (by omega))]
  have h : (((2 : Nat) ^ (8 * k) : Nat) : Int) = (2 : Int) ^ (8 * k) := by simp
  rw [← h, Int.natCast_emod, Int.natCast_ediv]
  rfl
theorem u8_wrap (x : Int) : IntKind.u8.wrap x = x % 256 := by simp [IntKind.wrap, IntKind.bits, IntKind.signed]

theorem make8 (w : World) : (Instr.makeSlice 41 (.int .i64 0) (.int .i64 8)).run Tryd.prog w = .ok (.slice (some ⟨w.heap.size, 0, none⟩) 0 8) (w.alloc (.cells (Array.replicate 8 (.int .u8 0)) 5)) := by kernel_rfl
theorem make20 (w : World) : (Instr.makeSlice 41 (.int .i64 0) (.int .i64 20)).run Tryd.prog w = .ok (.slice (some ⟨w.heap.size, 0, none⟩) 0 20) (w.alloc (.cells (Array.replicate 20 (.int .u8 0)) 5)) := by kernel_rfl
theorem bts_make (w : World) (n : Nat) : Bts (w.alloc (.cells (Array.replicate n (.int .u8 0)) 5)) w.heap.size (.slice (some ⟨w.heap.size, 0, none⟩) 0 n) [] := by
  have hh := heap_alloc_new w (.cells (Array.replicate n (.int .u8 0)) 5)
  refine ⟨w.heap.size, n, rfl, Nat.le_refl _, by simp, Nat.zero_le _, fun j hj => absurd hj (Nat.not_lt_zero _), fun j hj => ?_⟩
  rw [cell_of_row _ _ j _ _ _ hh, frozen_of_row _ _ j _ _ hh]
  simp [hj]

set_option maxHeartbeats 1000000 in
set_option maxRecDepth 100000 in
theorem length_any (n : Nat) (w : World) (hn : n < 18446744073709551616) :
    Calls Tryd.prog 58 #[.int .u64 n] w fun e w' => e = .returned (.string ⟨(Sh.highs n 8).toArray⟩) ∧ Below w.heap.size w w' := by
  obtain ⟨i0, hi0, hz0, hz1, hz2⟩ := info_parts info5
  have HI := Lib.hid (And.intro hi0 (And.intro hz0 (And.intro hz1 hz2)))
  clear hi0 hz0 hz1 hz2
  have hmk := make8 w
  have hb0 := bts_make w 8
  have HB0 := Lib.hid hb0
  have HW0 := Lib.hid ((Below.refl _ w).alloc (Nat.le_refl _) (.cells (Array.replicate 8 (.int .u8 0)) 5))
  clear hb0
  go_enter Tryd.func58, Tryd.ntmps58
  go_wp2
  clear hmk
  generalize w.alloc (.cells (Array.replicate 8 (.int .u8 0)) 5) = w0 at *
  go_loopg [3, 4] 8 (fun g v i wx => ∃ (j : Nat) (x : Int), j ≤ 8 ∧ g = j ∧ x = 8 * (j : Int) - 8 ∧ i = .int .i64 x ∧ Bts wx w.heap.size v (Sh.highs n (8 - j)) ∧ Below w.heap.size w wx)
  case atStart => exact ⟨8, 56, Nat.le_refl _, rfl, rfl, rfl, HB0.out, HW0.out⟩
  case round =>
    obtain ⟨j, x, hj, rfl, hx, rfl, hb, hbl⟩ := hrel
    clear HB0 HW0
    have HB := Lib.hid hb
    cases gk with
    | zero =>
      obtain rfl : x = -8 := by omega
      clear hx
      have hconv := bts_string (P := Tryd.prog) 41 9 Tryd.underlying41 Tryd.underlying5 Tryd.underlying9 hb
      clear hb
      go_wp2
      go_ret
      exact ⟨rfl, hbl⟩
    | succ j =>
      obtain ⟨y, hy⟩ : ∃ y, 8 * j = y := ⟨_, rfl⟩
      obtain rfl : x = (y : Int) := by omega
      clear hx
      obtain ⟨A, cap, rfl⟩ := bts_len hb
      clear hb
      have hsz := hbl.size
      have hyv : ((Sh.byteOf n j).toNat : Int) = (n : Int) / 2 ^ y % 256 := by rw [byte_at, hy]
      have hnx : Sh.highs n (8 - j) = Sh.highs n (8 - (j + 1)) ++ [Sh.byteOf n j] := by
        rw [show 8 - j = 8 - (j + 1) + 1 by omega, Sh.highs, show 7 - (8 - (j + 1)) = j by omega]
      have hlen : (Sh.highs n (8 - (j + 1))).length + 1 ≤ 1000000 := by rw [Sh.highs_length]; omega
      have hy64 : (y : Int) < 64 := by omega
      have hy0 : (0 : Int) ≤ y := by omega
      generalize Sh.highs n (8 - (j + 1)) = hs at *
      have HY := Lib.hid hy
      have HYV := Lib.hid hyv
      have HNX := Lib.hid hnx
      have HLN := Lib.hid hlen
      clear hy hyv hnx hlen
      have hb2 := HB.out.alloc (.cells #[.int .u8 ((n : Int) / 2 ^ y % 256)] 5)
      have hc2 := cell_one_new wr (.int .u8 ((n : Int) / 2 ^ y % 256)) 5 0 (.int .u8 ((n : Int) / 2 ^ y % 256)) rfl
      rw [add_zero_of] at hc2
      have HB2 := Lib.hid hb2
      have HC2 := Lib.hid hc2
      have HA := Lib.hid (hbl.alloc hsz (.cells #[.int .u8 ((n : Int) / 2 ^ y % 256)] 5))
      clear hb2 hc2
      go_wp2_with (at_builtin; refine wpList_append_bts rfl (.tmp 10) (.tmp 15) 41 rfl i0 Tryd.underlying41 HI.out.1 HI.out.2.1 HI.out.2.2.1 HI.out.2.2.2 rfl (B := w.heap.size) (l := hs) ?_ ?_ (Sh.byteOf n j) ((n : Int) / 2 ^ y % 256) HYV.out.symm HLN.out ⟨wr.heap.size, 0, none⟩ 1 rfl ?_ ?_; exact HB2.out; exact (by simp; omega); exact HC2.out; intro v2 w2 hb3 hw3)
      have HB3 := Lib.hid hb3
      have HW3 := Lib.hid (HA.out.trans hw3)
      clear hb3 hw3
      go_roundg j
      case rel => exact ⟨j, _, by omega, rfl, rfl, by have := HY.out; go_num, by rw [HNX.out]; exact HB3.out, HW3.out⟩
      case measure => omega

theorem flat_take (ss : List ByteArray) (k : Nat) (h : k < ss.length) : (bls (ss.take (k + 1))).flatten = (bls (ss.take k)).flatten ++ (ss.getD k ByteArray.empty).data.toList := by
  rw [List.take_add_one, bls, bls, List.map_append, List.flatten_append]
  simp [List.getElem?_eq_getElem h, List.getD, bl]
theorem flat_le (ss : List ByteArray) (k : Nat) : (bls (ss.take k)).flatten.length ≤ (bls ss).flatten.length := by
  conv => rhs; rw [← List.take_append_drop k ss, bls, List.map_append, List.flatten_append, List.length_append]
  exact Nat.le_add_right _ _

set_option maxHeartbeats 1000000 in
set_option maxRecDepth 100000 in
theorem write_any (w : World) (b : Nat) (l : List UInt8) (A : Option Addr) (B c : Nat) (ss : List ByteArray) (h : St w b l) (hS : Strs w B A ss) (hne : 0 < ss.length → ∀ ad, A = some ad → ad.block ≠ b) (hs : l.length + (bls ss).flatten.length ≤ 10000000) (hss : ss.length ≤ 100000) :
    Calls Tryd.prog 40 #[.pointer (some ⟨b, 0, none⟩), .slice A ss.length c] w fun e w' => e = .returned (.tuple #[]) ∧ St w' b (l ++ (bls ss).flatten) ∧ w.grownBy w' (some b) := by
  have HS := Lib.hid hS
  have HN := Lib.hid hne
  have HST := Lib.hid h
  have HSM := Lib.hid hs
  clear hS hne h hs
  go_enter Tryd.func40, Tryd.ntmps40
  go_wp2
  go_loopg [5, 8] ss.length (fun g s5 i wr => ∃ k : Nat, k ≤ ss.length ∧ g = ss.length - k ∧ i = .int .i64 k ∧ St wr b (l ++ (bls (ss.take k)).flatten) ∧ w.grownBy wr (some b))
  case atStart => exact ⟨0, Nat.zero_le _, rfl, rfl, by simpa [bls] using HST.out, World.grownBy.refl _ _⟩
  case round =>
    obtain ⟨k, hk, rfl, rfl, hst, hgr⟩ := hrel
    clear HST
    by_cases hlt : k < ss.length
    · have h1 : (k : Int) < ss.length := by omega
      have h0 : (0 : Int) ≤ k := by omega
      obtain ⟨ad, rfl, hblk, hc⟩ := HS.out k hlt
      have hc1 := hgr.cell hc (by rw [block_of_add]; exact fun e => HN.out (by omega) ad rfl (by injection e))
      have hfl := flat_take ss k hlt
      have hle := flat_le ss (k + 1)
      rw [hfl] at hle
      rw [List.length_append] at hle
      have hsz : (ss.getD k ByteArray.empty).data.toList.length = (ss.getD k ByteArray.empty).size := by simp
      have htk := fun W (hW : St W b (l ++ (bls (ss.take k)).flatten)) => take_any W b _ (ss.getD k ByteArray.empty) hW (by rw [List.length_append]; have := HSM.out; omega)
      generalize ss.getD k ByteArray.empty = y at *
      have HT := Lib.hid (htk wr hst)
      have HF := Lib.hid hfl
      have HG := Lib.hid hgr
      clear hc htk hle hfl hst hgr hsz
      go_wp2_with (go_at_call 55; refine HT.out.mono ?_; rintro e w1 ⟨rfl, hst1, hg1⟩)
      have HST1 := Lib.hid hst1
      have HG1 := Lib.hid hg1
      clear hst1 hg1
      go_roundg (ss.length - (k + 1))
      case rel => exact ⟨k + 1, by omega, rfl, by go_num, by rw [HF.out, ← List.append_assoc]; exact HST1.out, HG.out.trans HG1.out⟩
      case measure => omega
    · obtain rfl : k = ss.length := by omega
      have h1 : ¬ ((ss.length : Int) < ss.length) := by omega
      rw [List.take_length] at hst
      go_wp2
      exact bodyPost_end (v := .tuple #[]) (by simp [results, Tryd.results40]) rfl ⟨rfl, hst, hgr⟩
end Go.Proofs.YtmbbigmnliiadaaDoor.Hp
namespace Go.Proofs.YtmbbigmnliiadaaDoor.Hp
open Go.RowKit Hs
set_option linter.unusedVariables false

theorem noughts_int (n : Nat) (w : World) (hn : n ≤ 20000000) :
    Calls Tryd.prog 57 #[.int .u64 ((n : Int) + 1)] w fun e w' => e = .returned (.string ⟨(List.replicate (Sh.nought n) (0 : UInt8)).toArray⟩) ∧ Below w.heap.size w w' := noughts_any n w hn
theorem length_int (n : Nat) (w : World) (hn : n ≤ 20000000) :
    Calls Tryd.prog 58 #[.int .u64 ((n : Int) * 8)] w fun e w' => e = .returned (.string ⟨(Sh.highs (n * 8) 8).toArray⟩) ∧ Below w.heap.size w w' := length_any (n * 8) w (by omega)
theorem fill_flat (l : List UInt8) : l ++ (bls [⟨#[128]⟩, ⟨(List.replicate (Sh.nought l.length) (0 : UInt8)).toArray⟩, ⟨(Sh.highs (l.length * 8) 8).toArray⟩]).flatten = Sh.fill l := by
  simp [bls, bl, Sh.fill, Sh.pad]
theorem strs3 (w : World) (x y z : ByteArray) : Strs (w.alloc (.cells #[.string x, .string y, .string z] 9)) (w.heap.size + 1) (some ⟨w.heap.size, 0, none⟩) [x, y, z] := fun i hi => by
  have hh := heap_alloc_new w (.cells #[.string x, .string y, .string z] 9)
  refine ⟨_, rfl, by simp, ?_⟩
  rw [add_zero_of, cell_of_row _ _ i _ _ _ hh]
  simp at hi
  rcases (by omega : i = 0 ∨ i = 1 ∨ i = 2) with rfl | rfl | rfl <;> simp
theorem u64_wrap (x : Int) : IntKind.u64.wrap x = x % 18446744073709551616 := by simp [IntKind.wrap, IntKind.bits, IntKind.signed]
theorem own_make (w : World) (n : Nat) (hn : n ≤ 1000) : (w.alloc (.cells (Array.replicate n (.int .u8 0)) 5)).ownsRow w.heap.size 5 1 (.slice (some ⟨w.heap.size, 0, none⟩) 0 n) 0 [] :=
  ⟨rfl, .inr ⟨w.heap.size, n, _, rfl, Nat.le_refl _, heap_alloc_new w _, Nat.zero_le _, by unfold maxLen; omega, by simp, by simp⟩⟩
theorem cs_get (x : Sh.Ch) (k : Nat) (h : k < 5) : (cs x)[k]? = some (.int .u32 (tn (fld x k))) := cs_fld x k h
theorem own_lower {w : World} {base B : Nat} {e : TypeId} {sz n : Nat} {v : Value} {xs : List Value} (h : w.ownsRow base e sz v n xs) (hB : B ≤ base) : w.ownsRow B e sz v n xs := by
  refine ⟨h.1, ?_⟩
  rcases h.2 with h2 | ⟨g, cap, cur, h1, h2, h3⟩
  · exact .inl h2
  · exact .inr ⟨g, cap, cur, h1, Nat.le_trans hB h2, h3⟩
theorem wpList_load_chain {ops : Array Oper} {rest : List Oper} {o : Oper} {a : Act} {w : World} {Q : Exit → Act → World → Prop} (hgd : o.guard = none) (x : Operand) (ho : o.op = .load 70 x) (b : Nat) (hx : a.eval x = .pointer (some ⟨b, 0, none⟩))
    (X : Sh.Ch) (r : List UInt8) (n : Nat) (hg : w.heap[b]? = some (.cells (sts X r n) 96 (0, 0))) (h : wpList Tryd.prog ops Q rest (a.put o.dst (.agg (cs X))) w) : wpList Tryd.prog ops Q (o :: rest) a w :=
  wpList_plain hgd fun _ hK => wp_load_chain x ho b hx X r n hg (hK _ _ h)

set_option maxHeartbeats 2000000 in
set_option maxRecDepth 100000 in
theorem ssum_any (w : World) (b : Nat) (l : List UInt8) (h : St w b l) (hs : l.length ≤ 1000000) :
    Calls Tryd.prog 41 #[.pointer (some ⟨b, 0, none⟩)] w fun e w' => e = .returned (.string ⟨(Sh.sum l).toArray⟩) ∧ Below w.heap.size w w' := by
  obtain ⟨i0, hi0, hz0, hz1, hz2⟩ := info_parts info5
  have HI := Lib.hid (And.intro hi0 (And.intro hz0 (And.intro hz1 hz2)))
  clear hi0 hz0 hz1 hz2
  have hlt := h.lt
  have hcopy := copy_any w b l h
  have hct : w.cell? ⟨b, 69, none⟩ = some (.int .u64 l.length) := by
    obtain ⟨r, hr, _, hg⟩ := h
    rw [cell_of_row _ _ 69 _ _ _ hg, sts_told _ _ _ hr]
  go_enter Tryd.func41, Tryd.ntmps41
  go_wp2_with fail
  refine hcopy.mono ?_
  rintro e1 w1 ⟨rfl, hst1, hb1⟩
  have hsz1 := hb1.size
  have hblt : b < w1.heap.size := by omega
  have hct1 : w1.cell? ⟨b, 69, none⟩ = some (.int .u64 l.length) := by rw [hb1.cell (p := ⟨b, 69, none⟩) hlt]; exact hct
  have hwr : ∀ w3 w4 : World, Below w1.heap.size w1.drew w3 → Below w3.heap.size w3 w4 →
      Calls Tryd.prog 40 #[.pointer (some ⟨w.heap.size, 0, none⟩), .slice (some ⟨w4.heap.size, 0, none⟩) 3 3] (w4.alloc (.cells #[.string ⟨#[128]⟩, .string ⟨(List.replicate (Sh.nought l.length) (0 : UInt8)).toArray⟩, .string ⟨(Sh.highs (l.length * 8) 8).toArray⟩] 9))
        fun e w' => e = .returned (.tuple #[]) ∧ St w' w.heap.size (Sh.fill l) ∧ Below w.heap.size w w' := fun w3 w4 hb3 hb4 => by
    have hel : w.heap.size < w1.heap.size := hst1.lt
    have h34 : w1.heap.size ≤ w4.heap.size := Nat.le_trans hb3.size hb4.size
    have hst4 : St w4 w.heap.size l := by
      have hst1' : St w1.drew w.heap.size l := hst1
      exact (hst1'.below hb3 hel).below hb4 (Nat.lt_of_lt_of_le hel hb3.size)
    have hbw : Below w.heap.size w w4 := (hb1.drew.trans (hb3.mono hsz1)).trans (hb4.mono (Nat.le_trans hsz1 hb3.size))
    have hh := write_any (w4.alloc (.cells #[.string ⟨#[128]⟩, .string ⟨(List.replicate (Sh.nought l.length) (0 : UInt8)).toArray⟩, .string ⟨(Sh.highs (l.length * 8) 8).toArray⟩] 9)) w.heap.size l _ _ 3 _
      (hst4.below ((Below.refl _ w4).alloc (Nat.le_refl _) _) hst4.lt) (strs3 w4 ⟨#[128]⟩ ⟨(List.replicate (Sh.nought l.length) (0 : UInt8)).toArray⟩ ⟨(Sh.highs (l.length * 8) 8).toArray⟩)
      (fun _ ad e => by injection e with e; subst e; show w4.heap.size ≠ _; omega)
      (by rw [← List.length_append, fill_flat, Sh.fill, List.length_append, Sh.pad_length, Sh.highs_length]; have : Sh.nought l.length < 64 := Nat.mod_lt _ (by omega); omega) (by simp)
    rw [fill_flat] at hh
    refine hh.mono ?_
    rintro e5 w5 ⟨rfl, h5, hg5⟩
    exact ⟨rfl, h5, (hbw.alloc hbw.size _).grown hg5 (by simp; omega) (fun k hk => by injection hk with hk; omega)⟩
  have hsum : Sh.sum l = Sh.told (Sh.chain (Sh.fill l) ((Sh.fill l).length / 64)) 5 := rfl
  generalize hn : l.length = n at *
  have HWR := Lib.hid hwr
  have CT := Lib.hid hct1
  have HST1 := Lib.hid hst1
  have HB1 := Lib.hid hb1
  have HSUM := Lib.hid hsum
  clear hwr hst1 hb1 hcopy hct h hn hsum
  have wu1 : IntKind.u64.wrap ((n : Int) + 1) = (n : Int) + 1 := by rw [u64_wrap]; omega
  have wu8 : IntKind.u64.wrap ((n : Int) * 8) = (n : Int) * 8 := by rw [u64_wrap]; omega
  go_upto_region 2 with fail
  go_cut [] (fun wx => St wx w.heap.size (Sh.fill l) ∧ Below w.heap.size w wx)
  case first =>
      refine wp_region_any (by kernel_rfl) ?_
      change wpAny _ _ _ _ _ _ _ (World.drew _)
      refine wpAny_take (i := 0) (v := .pointer (some ⟨w.heap.size, 0, none⟩)) rfl (by kernel_rfl) (by kernel_rfl) (by kernel_rfl) (fun _ _ _ h => h) (Or.inl ⟨by rfl, fun w => by go_simp⟩) ?_
      go_simp
      refine wpAny_take (i := 1) (v := .pointer (some ⟨b, 0, none⟩)) rfl (by kernel_rfl) (by kernel_rfl) (by kernel_rfl) (fun _ _ _ h => h) (Or.inl ⟨by rfl, fun w => by go_simp⟩) ?_
      go_simp
      refine wpAny_take (i := 2) (v := .pointer (some ⟨b, 0, none⟩)) rfl (by kernel_rfl) (by kernel_rfl) (by kernel_rfl) (fun _ _ _ h => h) (Or.inl ⟨by rfl, fun w => by go_simp⟩) ?_
      go_simp
      refine wpAny_take (i := 3) (v := .pointer (some ⟨b, 69, none⟩)) rfl (by kernel_rfl) (by kernel_rfl) (by kernel_rfl) (fun _ _ _ h => h) (Or.inl ⟨by rfl, fun w => by go_simp⟩) ?_
      go_simp
      refine wpAny_take (i := 7) (v := .pointer (some ⟨b, 0, none⟩)) rfl (by kernel_rfl) (by kernel_rfl) (by kernel_rfl) (fun _ _ _ h => h) (Or.inl ⟨by rfl, fun w => by go_simp⟩) ?_
      go_simp
      refine wpAny_take (i := 8) (v := .pointer (some ⟨b, 0, none⟩)) rfl (by kernel_rfl) (by kernel_rfl) (by kernel_rfl) (fun _ _ _ h => h) (Or.inl ⟨by rfl, fun w => by go_simp⟩) ?_
      go_simp
      refine wpAny_take (i := 9) (v := .pointer (some ⟨b, 69, none⟩)) rfl (by kernel_rfl) (by kernel_rfl) (by kernel_rfl) (fun _ _ _ h => h) (Or.inl ⟨by rfl, fun w => by go_simp⟩) ?_
      go_simp
      refine wpAny_ready (rs := [4, 10]) (by kernel_rfl) (by simp) ?_
      refine AllReady.cons rfl (fun K hK => ?_) (AllReady.cons rfl (fun K hK => ?_) AllReady.nil)
      · go_simp
        refine hK _ _ ?_
        clear hK K
        refine wpAny_take (i := 5) (v := .int .u64 ((n : Int) + 1)) rfl (by kernel_rfl) (by kernel_rfl) (by kernel_rfl) (fun _ _ _ h => h) (Or.inl ⟨by rfl, fun w => by go_simp⟩) ?_
        go_simp
        refine wpAny_ready (rs := [6, 10]) (by kernel_rfl) (by simp) ?_
        refine AllReady.cons rfl (fun K hK => ?_) (AllReady.cons rfl (fun K hK => ?_) AllReady.nil)
        · go_simp
          refine (noughts_int n _ (by omega)).mono ?_
          rintro e3 w3 ⟨rfl, hb3⟩
          refine hK _ _ ?_
          clear hK K
          have ct3 : w3.cell? ⟨b, 69, none⟩ = some (.int .u64 n) := by rw [hb3.cell (p := ⟨b, 69, none⟩) hblt]; exact CT.out
          refine wpAny_ready (rs := [10]) (by kernel_rfl) (by simp) ?_
          refine AllReady.cons rfl (fun K hK => ?_) AllReady.nil
          go_simp
          refine hK _ _ ?_
          clear hK K
          refine wpAny_take (i := 11) (v := .int .u64 ((n : Int) * 8)) rfl (by kernel_rfl) (by kernel_rfl) (by kernel_rfl) (fun _ _ _ h => h) (Or.inl ⟨by rfl, fun w => by go_simp⟩) ?_
          go_simp
          refine wpAny_ready (rs := [12]) (by kernel_rfl) (by simp) ?_
          refine AllReady.cons rfl (fun K hK => ?_) AllReady.nil
          go_simp
          refine (length_int n _ (by omega)).mono ?_
          rintro e4 w4 ⟨rfl, hb4⟩
          refine hK _ _ ?_
          clear hK K
          refine wpAny_ready (rs := [13]) (by kernel_rfl) (by simp) ?_
          refine AllReady.cons rfl (fun K hK => ?_) AllReady.nil
          go_simp
          refine hK _ _ ?_
          clear hK K
          refine wpAny_ready (rs := [14]) (by kernel_rfl) (by simp) ?_
          refine AllReady.cons rfl (fun K hK => ?_) AllReady.nil
          go_simp
          refine (HWR.out w3 w4 hb3 hb4).mono ?_
          rintro e5 w5 ⟨rfl, hst5, hbl5⟩
          refine hK _ _ ?_
          clear hK K
          refine wpAny_done (by kernel_rfl) ?_ _
          go_wp2_with fail
          go_meet
          exact ⟨hst5, hbl5⟩
        · go_simp
          refine hK _ _ ?_
          clear hK K
          refine wpAny_take (i := 11) (v := .int .u64 ((n : Int) * 8)) rfl (by kernel_rfl) (by kernel_rfl) (by kernel_rfl) (fun _ _ _ h => h) (Or.inl ⟨by rfl, fun w => by go_simp⟩) ?_
          go_simp
          refine wpAny_ready (rs := [6]) (by kernel_rfl) (by simp) ?_
          refine AllReady.cons rfl (fun K hK => ?_) AllReady.nil
          go_simp
          refine (noughts_int n _ (by omega)).mono ?_
          rintro e3 w3 ⟨rfl, hb3⟩
          refine hK _ _ ?_
          clear hK K
          refine wpAny_ready (rs := [12]) (by kernel_rfl) (by simp) ?_
          refine AllReady.cons rfl (fun K hK => ?_) AllReady.nil
          go_simp
          refine (length_int n _ (by omega)).mono ?_
          rintro e4 w4 ⟨rfl, hb4⟩
          refine hK _ _ ?_
          clear hK K
          refine wpAny_ready (rs := [13]) (by kernel_rfl) (by simp) ?_
          refine AllReady.cons rfl (fun K hK => ?_) AllReady.nil
          go_simp
          refine hK _ _ ?_
          clear hK K
          refine wpAny_ready (rs := [14]) (by kernel_rfl) (by simp) ?_
          refine AllReady.cons rfl (fun K hK => ?_) AllReady.nil
          go_simp
          refine (HWR.out w3 w4 hb3 hb4).mono ?_
          rintro e5 w5 ⟨rfl, hst5, hbl5⟩
          refine hK _ _ ?_
          clear hK K
          refine wpAny_done (by kernel_rfl) ?_ _
          go_wp2_with fail
          go_meet
          exact ⟨hst5, hbl5⟩
      · go_simp
        refine hK _ _ ?_
        clear hK K
        refine wpAny_take (i := 11) (v := .int .u64 ((n : Int) * 8)) rfl (by kernel_rfl) (by kernel_rfl) (by kernel_rfl) (fun _ _ _ h => h) (Or.inl ⟨by rfl, fun w => by go_simp⟩) ?_
        go_simp
        refine wpAny_ready (rs := [4]) (by kernel_rfl) (by simp) ?_
        refine AllReady.cons rfl (fun K hK => ?_) AllReady.nil
        go_simp
        refine hK _ _ ?_
        clear hK K
        refine wpAny_take (i := 5) (v := .int .u64 ((n : Int) + 1)) rfl (by kernel_rfl) (by kernel_rfl) (by kernel_rfl) (fun _ _ _ h => h) (Or.inl ⟨by rfl, fun w => by go_simp⟩) ?_
        go_simp
        refine wpAny_ready (rs := [6]) (by kernel_rfl) (by simp) ?_
        refine AllReady.cons rfl (fun K hK => ?_) AllReady.nil
        go_simp
        refine (noughts_int n _ (by omega)).mono ?_
        rintro e3 w3 ⟨rfl, hb3⟩
        refine hK _ _ ?_
        clear hK K
        refine wpAny_ready (rs := [12]) (by kernel_rfl) (by simp) ?_
        refine AllReady.cons rfl (fun K hK => ?_) AllReady.nil
        go_simp
        refine (length_int n _ (by omega)).mono ?_
        rintro e4 w4 ⟨rfl, hb4⟩
        refine hK _ _ ?_
        clear hK K
        refine wpAny_ready (rs := [13]) (by kernel_rfl) (by simp) ?_
        refine AllReady.cons rfl (fun K hK => ?_) AllReady.nil
        go_simp
        refine hK _ _ ?_
        clear hK K
        refine wpAny_ready (rs := [14]) (by kernel_rfl) (by simp) ?_
        refine AllReady.cons rfl (fun K hK => ?_) AllReady.nil
        go_simp
        refine (HWR.out w3 w4 hb3 hb4).mono ?_
        rintro e5 w5 ⟨rfl, hst5, hbl5⟩
        refine hK _ _ ?_
        clear hK K
        refine wpAny_done (by kernel_rfl) ?_ _
        go_wp2_with fail
        go_meet
        exact ⟨hst5, hbl5⟩
  case rest =>
    obtain ⟨hst, hbl⟩ := hcut
    obtain ⟨r2, hr2, _, hg2⟩ := hst
    have hszc := hbl.size
    have hbc := (Array.getElem?_eq_some_iff.1 hg2).1
    generalize Sh.chain (Sh.fill l) ((Sh.fill l).length / 64) = X at *
    have hmk := make20 wc
    have ho0 := own_make wc 20 (by omega)
    have hg3 : (wc.alloc (.cells (Array.replicate 20 (.int .u8 0)) 5)).heap[w.heap.size]? = some (.cells (sts X r2 (Sh.fill l).length) 96 (0, 0)) := (Below.heap_alloc _ _ _ hbc).trans hg2
    have HG3 := Lib.hid hg3
    have HO0 := Lib.hid ho0
    have HBL := Lib.hid (hbl.alloc hszc (.cells (Array.replicate 20 (.int .u8 0)) 5))
    clear ho0 hg3 hbl hg2
    go_wp2_with (with_reducible refine wpList_load_chain rfl (.tmp 27) rfl w.heap.size rfl X r2 (Sh.fill l).length HG3.out ?_)
    clear hmk
    generalize hwd : wc.alloc (.cells (Array.replicate 20 (.int .u8 0)) 5) = wd at *
    have hwds : wc.heap.size < wd.heap.size := by rw [← hwd]; simp
    clear hwd
    generalize hgc : wc.heap.size = gc at *
    clear hgc
    go_loopg [4, 6, 29] 5 (fun gk v s6 i wx => ∃ k : Nat, k ≤ 5 ∧ gk = 5 - k ∧ i = .int .i64 k ∧ Below w.heap.size w wx ∧ wx.ownsRow w.heap.size 5 1 v (4 * k) ((Sh.told X k).map fun c => .int .u8 c.toNat))
    case atStart => exact ⟨0, Nat.zero_le _, rfl, rfl, HBL.out, own_lower HO0.out hszc⟩
    case round =>
      obtain ⟨k, hk, rfl, rfl, hbl, hown⟩ := hrel
      clear HBL HO0 HG3
      by_cases hlt : k < 5
      · have h1 : (k : Int) < 5 := by omega
        have hix := run_index_row (P := Tryd.prog) Tryd.underlying70 Tryd.isAgg68 Tryd.sizeOf68 hlt (cs_get X k hlt)
        have hnx : Sh.told X (k + 1) = Sh.told X k ++ Sh.be4 (fld X k) := rfl
        have hblw := hbl.size
        generalize fld X k = x at *
        generalize hxs : ((Sh.told X k).map fun c => Value.int .u8 c.toNat) = xs at *
        have HX := Lib.hid hxs
        have HNX := Lib.hid hnx
        have HO := Lib.hid hown
        have HB := Lib.hid hbl
        clear hxs hnx hown hbl
        have hx0 := tn_nonneg x
        have hx1 := tn_lt x
        obtain ⟨b0, b1, b2, b3, hbe, q0, q1, q2, q3⟩ := be4_parts x
        have HBE := Lib.hid hbe
        clear hbe
        go_wp2_with (at_builtin; refine wpList_append_own_at _ rfl (.tmp 32) (.tmp 44) 41 rfl w.heap.size 5 i0 _ 1 1 Tryd.underlying41 HI.out.1 HI.out.2.1 HI.out.2.2.1 HI.out.2.2.2 rfl (by omega) u4 (4 * k) xs rfl (HO.out.alloc _) ⟨wr.heap.size, 0, none⟩ 4 4 [.int .u8 b0.toNat, .int .u8 b1.toNat, .int .u8 b2.toNat, .int .u8 b3.toNat] rfl rfl (World.news_of_block (cs := #[.int .u8 b0.toNat, .int .u8 b1.toNat, .int .u8 b2.toNat, .int .u8 b3.toNat]) (t := 5) (fr := (0, 0)) (heap_alloc_new wr _)) (by simp [Value.oneCell']) (by unfold maxLen; omega) (by omega) (by simp; omega) ?_; intro v1 wA hoA hgA hnA hatA)
        have hown2 : wA.ownsRow w.heap.size 5 1 v1 (4 * (k + 1)) ((Sh.told X (k + 1)).map fun c => .int .u8 c.toNat) := by
          rw [HNX.out, List.map_append, HX.out, HBE.out]
          exact hoA
        have hbl2 : Below w.heap.size w wA := (HB.out.alloc hblw _).grown hgA (by simp; omega) (fun i hi => (HO.out.lt i hi).1)
        have HO2 := Lib.hid hown2
        have HB2 := Lib.hid hbl2
        clear hown2 hbl2 hoA hgA hnA hatA
        go_roundg (5 - (k + 1))
        case rel => exact ⟨k + 1, by omega, rfl, by go_num, HB2.out, HO2.out⟩
        case measure => omega
      · obtain rfl : k = 5 := by omega
        have hconv := own_text hown
        rw [← HSUM.out] at hconv
        clear hown
        go_wp2
        go_ret
        exact ⟨rfl, hbl⟩

theorem sum_any (w : World) (A : Option Addr) (c : Nat) (ss : List ByteArray) (hS : Strs w w.heap.size A ss) (hs : (bls ss).flatten.length ≤ 1000000) (hss : ss.length ≤ 100000) :
    Calls Tryd.prog 31 #[.slice A ss.length c] w fun e w' => e = .returned (.string ⟨(Sh.sum (bls ss).flatten).toArray⟩) ∧ Below w.heap.size w w' := by
  have HS := Lib.hid hS
  clear hS
  go_enter Tryd.func31, Tryd.ntmps31
  go_wp2_with fail
  refine (new_any _).mono ?_
  rintro e1 w1 ⟨b, rfl, hb, hst, hbl⟩
  have hw := write_any w1 b [] A w.heap.size c ss hst (HS.out.below hbl) (fun h0 ad e => by
    obtain ⟨ad', e', hlt, _⟩ := HS.out 0 h0
    rw [e] at e'
    injection e' with e'
    subst e'
    omega) (by rw [List.length_nil]; omega) hss
  rw [List.nil_append] at hw
  have hbe := hbl.size
  generalize hL : (bls ss).flatten = L at *
  have HL := Lib.hid hL
  clear hL
  go_wp2_with fail
  refine hw.mono ?_
  rintro e2 w2 ⟨rfl, hst2, hg2⟩
  have hb2 : Below w.heap.size w w2 := hbl.grown hg2 hbe (fun k hk => by injection hk with hk; omega)
  go_wp2_with fail
  refine (ssum_any w2 b L hst2 hs).mono ?_
  rintro e3 w3 ⟨rfl, hb3⟩
  go_wp2
  go_ret
  exact ⟨by rw [HL.out]; rfl, hb2.trans (hb3.mono hb2.size)⟩
end Go.Proofs.YtmbbigmnliiadaaDoor.Hp
namespace Go.Proofs.YtmbbigmnliiadaaDoor.Hp
open Go.RowKit Hs
set_option linter.unusedVariables false

theorem strs1 (w : World) (x : ByteArray) : Strs (w.alloc (.cells #[.string x] 9)) (w.heap.size + 1) (some ⟨w.heap.size, 0, none⟩) [x] := fun i hi => by
  have hh := heap_alloc_new w (.cells #[.string x] 9)
  refine ⟨_, rfl, by simp, ?_⟩
  rw [add_zero_of, cell_of_row _ _ i _ _ _ hh]
  simp at hi
  subst hi
  simp
theorem strs2 (w : World) (x y : ByteArray) : Strs (w.alloc (.cells #[.string x, .string y] 9)) (w.heap.size + 1) (some ⟨w.heap.size, 0, none⟩) [x, y] := fun i hi => by
  have hh := heap_alloc_new w (.cells #[.string x, .string y] 9)
  refine ⟨_, rfl, by simp, ?_⟩
  rw [add_zero_of, cell_of_row _ _ i _ _ _ hh]
  simp at hi
  rcases (by omega : i = 0 ∨ i = 1) with rfl | rfl <;> simp
/-- the digest of one text -/
theorem sum_one (s : ByteArray) (w : World) (hs : s.size ≤ 1000000) :
    Calls Tryd.prog 31 #[.slice (some ⟨w.heap.size, 0, none⟩) 1 1] (w.alloc (.cells #[.string s] 9)) fun e w' => e = .returned (.string ⟨(Sh.sum s.data.toList).toArray⟩) ∧ Below w.heap.size w w' := by
  have hf : (bls [s]).flatten = s.data.toList := by simp [bls, bl]
  have h := sum_any (w.alloc (.cells #[.string s] 9)) (some ⟨w.heap.size, 0, none⟩) 1 [s] (by have := strs1 w s; simpa using this) (by rw [hf]; simpa using hs) (by simp)
  rw [hf] at h
  refine h.mono ?_
  rintro e w' ⟨rfl, hb⟩
  exact ⟨rfl, ((Below.refl _ w).alloc (Nat.le_refl _) _).trans (hb.mono (by simp))⟩
theorem sum_abc : Sh.sum [97, 98, 99] = [169, 153, 62, 54, 71, 6, 129, 106, 186, 62, 37, 113, 120, 80, 194, 108, 156, 208, 216, 157] := by kernel_rfl
theorem digs_abc : M.digs (bl ⟨#[169, 153, 62, 54, 71, 6, 129, 106, 186, 62, 37, 113, 120, 80, 194, 108, 156, 208, 216, 157]⟩) = [97, 57, 57, 57, 51, 101, 51, 54, 52, 55, 48, 54, 56, 49, 54, 97, 98, 97, 51, 101, 50, 53, 55, 49, 55, 56, 53, 48, 99, 50, 54, 99, 57, 99, 100, 48, 100, 56, 57, 100] := by kernel_rfl
theorem words_abcd : (Sh.words [97, 98, 99, 100]).getD 0 0 = 1633837924 := by kernel_rfl

end Go.Proofs.YtmbbigmnliiadaaDoor.Hp
