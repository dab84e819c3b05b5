/-
  The contract of the document's Sum (layer 2): the digest.
-/
import Derived.Test.YtpffolohkmokhaaShf
import Derived.Deep.AppendLies
namespace Go.Proofs.Ytpffolohkmokhaa.Hs
open Go.RowKit
set_option linter.unusedVariables false
attribute [local go_sem] t_and t_or t_xor t_not t_add t_sub t_add_wrap t_sub_wrap

namespace Sh
/-- the chain behind k blocks -/
def chain (f : List UInt8) : Nat → Ch
  | 0 => first
  | k + 1 => press (chain f k) ((f.drop (64 * k)).take 64)
/-- a word's bytes, the highest first -/
def be4 (x : UInt32) : List UInt8 := [UInt8.ofNat (x.toNat / 16777216 % 256), UInt8.ofNat (x.toNat / 65536 % 256), UInt8.ofNat (x.toNat / 256 % 256), UInt8.ofNat (x.toNat % 256)]
def told (x : Ch) : Nat → List UInt8
  | 0 => []
  | k + 1 => told x k ++ be4 (fld x k)
def sum (l : List UInt8) : List UInt8 := told (chain (fill l) ((fill l).length / 64)) 5
theorem fill_length (l : List UInt8) : (fill l).length % 64 = 0 := by
  rw [fill, List.length_append, pad_length, highs_length]
  unfold nought
  omega
theorem told_length (x : Ch) (k : Nat) : (told x k).length = 4 * k := by
  induction k with
  | zero => rfl
  | succ k ih => simp [told, ih, be4]; omega
end Sh

theorem be4_parts (x : UInt32) : ∃ b0 b1 b2 b3 : UInt8, Sh.be4 x = [b0, b1, b2, b3] ∧ IntKind.u8.wrap (tn x / 16777216) = (b0.toNat : Int) ∧ IntKind.u8.wrap (tn x / 65536) = (b1.toNat : Int) ∧ IntKind.u8.wrap (tn x / 256) = (b2.toNat : Int) ∧ IntKind.u8.wrap (tn x) = (b3.toNat : Int) := by
  have hx := w_lt x
  have hw : ∀ n : Nat, IntKind.u8.wrap (n : Int) = ((UInt8.ofNat (n % 256)).toNat : Int) := fun n => by
    rw [UInt8.toNat_ofNat', Nat.mod_eq_of_lt (show n % 256 < 2 ^ 8 from Nat.mod_lt _ (by omega))]
    simp [IntKind.wrap, IntKind.bits, IntKind.signed]
  refine ⟨_, _, _, _, rfl, ?_, ?_, ?_, ?_⟩
  · rw [← hw]; rfl
  · rw [← hw]; rfl
  · rw [← hw]; rfl
  · rw [← hw]; rfl
theorem grown_cell {w w' : World} {row : Option Nat} (h : w.grownBy w' row) {p : Addr} (hp : p.block < w.heap.size) (hne : row ≠ some p.block) : w'.cell? p = w.cell? p :=
  World.cell?_of_block (h.block p.block hp (fun e => hne e.symm))

/-- the state of Sum's loop: the chain's row -/
structure Su (w wr : World) (g : Nat) (x : Sh.Ch) : Prop where
  below : Below w.heap.size w wr
  lo : w.heap.size ≤ g
  row : wr.heap[g]? = some (.cells (cs x) 36 (0, 0))
theorem Su.lt {w wr : World} {g : Nat} {x : Sh.Ch} (h : Su w wr g x) : g < wr.heap.size := (Array.getElem?_eq_some_iff.1 h.row).1
theorem Su.step {w wr w1 : World} {g : Nat} {x : Sh.Ch} (h : Su w wr g x) (hb : Below wr.heap.size wr.drew w1) (y : Sh.Ch) : Su w (w1.setRow g (cs y)) g y :=
  ⟨below_setRow (h.below.drew.trans (hb.mono h.below.size)) h.lo _, h.lo, setRow_heap _ _ (cs x) _ _ _ (by rw [hb.block _ h.lt]; exact h.row)⟩

theorem own_text {w : World} {base n : Nat} {v : Value} {l : List UInt8} (h : w.ownsRow base 5 1 v n (l.map fun c => .int .u8 c.toNat)) : (convert 66 9 v).run Try.prog w = .ok (.string ⟨l.toArray⟩) w := by
  cases hl : l with
  | nil =>
    subst hl
    have hn : n = 0 := by have := h.1; simp at this; omega
    subst hn
    rcases h.2 with ⟨rfl, _⟩ | ⟨g, cap, cur, rfl, _, _⟩
    · exact run_convert_bytes_nil w 66 5 Try.underlying66 Try.underlying5 0 0 9 Try.underlying9
    · rw [run_convert_bytes_arg w 66 5 Try.underlying66 Try.underlying5 g 0 0 cap [] rfl (fun i hi => by omega) 9 Try.underlying9]; rfl
  | cons a r =>
    rw [← hl]
    exact bts_string (B := base) 66 9 Try.underlying66 Try.underlying5 Try.underlying9 (Bts.of_own h (Nat.le_refl _) (by rw [hl]; simp))

set_option maxHeartbeats 400000 in
set_option maxRecDepth 100000 in
theorem rsum_any (s : ByteArray) (w : World) (hs : s.size ≤ 90000) :
    Calls Try.prog 19 #[.string s] w fun e w' => e = .returned (.string ⟨(Sh.sum s.data.toList).toArray⟩) ∧ Below w.heap.size w w' := by
  obtain ⟨i0, hi0, hz0, hz1, hz2⟩ := info_parts info5
  have HI := Lib.hid (And.intro hi0 (And.intro hz0 (And.intro hz1 hz2)))
  clear hi0 hz0 hz1 hz2
  have hfl : (Sh.fill s.data.toList).length ≤ 100000 := by
    rw [Sh.fill, List.length_append, Sh.pad_length, Sh.highs_length]
    have : Sh.nought s.data.toList.length < 64 := Nat.mod_lt _ (by omega)
    simp at this ⊢
    omega
  go_enter Try.func19, Try.ntmps19
  go_wp2_with fail
  refine (rfill_any _ _ (by omega)).mono ?_
  rintro e w1 ⟨rfl, hb1⟩
  have hsum : Sh.sum s.data.toList = Sh.told (Sh.chain (Sh.fill s.data.toList) ((Sh.fill s.data.toList).length / 64)) 5 := rfl
  have h64 := Sh.fill_length s.data.toList
  generalize hF : (⟨(Sh.fill s.data.toList).toArray⟩ : ByteArray) = F at *
  have hFl : Sh.fill s.data.toList = F.data.toList := by rw [← hF]
  rw [hFl] at hsum h64 hfl
  have hFs : F.data.toList.length = F.size := by simp
  rw [hFs] at hsum h64 hfl
  have HSUM := Lib.hid hsum
  have H64 := Lib.hid h64
  clear hsum h64 hF hFl hFs
  go_wp2_with fail
  refine (rfirst_any _).mono ?_
  rintro e w2 ⟨rfl, hb2⟩
  have hnew := heap_alloc_new w2 (.cells #[.int .u32 0, .int .u32 0, .int .u32 0, .int .u32 0, .int .u32 0] 36)
  have hst : Su w ((w2.alloc (.cells #[.int .u32 0, .int .u32 0, .int .u32 0, .int .u32 0, .int .u32 0] 36)).setRow w2.heap.size (cs Sh.first)) w2.heap.size Sh.first := by
    have hbw := hb1.trans (hb2.mono hb1.size)
    exact ⟨below_setRow (hbw.alloc hbw.size _) hbw.size _, hbw.size, setRow_heap _ _ _ _ _ _ hnew⟩
  have HNEW := Lib.hid hnew
  have HST := Lib.hid hst
  clear hnew hst hb1 hb2
  go_wp2_with (with_reducible refine wpList_store_row rfl 36 (.tmp 4) (.tmp 10) rfl w2.heap.size _ rfl rfl 36 _ HNEW.out (info27 _) (zero_size _) (cs_one _) ?_)
  clear HNEW
  generalize hgg : w2.heap.size = g at *
  clear hgg
  go_loopg [5] (F.size / 64) (fun gk i wr => ∃ (k j : Nat), k ≤ F.size / 64 ∧ j = 64 * k ∧ gk = F.size / 64 - k ∧ i = .int .i64 j ∧ Su w wr g (Sh.chain F.data.toList k))
  case atStart => exact ⟨0, 0, Nat.zero_le _, rfl, rfl, rfl, HST.out⟩
  case round =>
    obtain ⟨k, j, hk, hj, rfl, rfl, hsu⟩ := hrel
    clear HST
    by_cases hlt : k < F.size / 64
    · have hjs : j + 64 ≤ F.size := by omega
      have HJ := Lib.hid hj
      clear hj
      have h1 : (j : Int) < F.size := by omega
      have h2 : (0 : Int) ≤ j := by omega
      have h3 : (j : Int) + 64 ≤ F.size := by omega
      have hw64 : IntKind.i64.wrap ((j : Int) + 64) = (j : Int) + 64 := IntWalk.i64_in _ (by omega)
      have h4 : (0 : Int) ≤ (j : Int) + 64 := by omega
      have h5 : (j : Int) ≤ (j : Int) + 64 := by omega
      have h6 : ((j : Int) + 64).toNat = j + 64 := by omega
      have hnx : Sh.chain F.data.toList (k + 1) = Sh.press (Sh.chain F.data.toList k) ((F.data.toList.drop (64 * k)).take 64) := rfl
      generalize Sh.chain F.data.toList k = X at *
      have HNX := Lib.hid hnx
      have HS := Lib.hid hsu
      clear hnx hsu
      go_wp2_with fail
      refine wp_region_any (by kernel_rfl) ?_
      change wpAny _ _ _ _ _ _ _ (World.drew _)
      refine wpAny_take (i := 1) (v := .string F) rfl (by kernel_rfl) (by kernel_rfl) (by kernel_rfl) (fun _ _ _ h => h) (Or.inl ⟨by rfl, fun w => by go_simp⟩) ?_
      go_simp
      refine wpAny_take (i := 2) (v := .int .i64 j) rfl (by kernel_rfl) (by kernel_rfl) (by kernel_rfl) (fun _ _ _ h => h) (Or.inl ⟨by rfl, fun w => by go_simp⟩) ?_
      go_simp
      refine wpAny_take (i := 3) (v := .int .i64 j) rfl (by kernel_rfl) (by kernel_rfl) (by kernel_rfl) (fun _ _ _ h => h) (Or.inl ⟨by rfl, fun w => by go_simp⟩) ?_
      go_simp
      refine wpAny_take (i := 4) (v := .int .i64 ((j : Int) + 64)) rfl (by kernel_rfl) (by kernel_rfl) (by kernel_rfl) (fun _ _ _ h => h) (Or.inl ⟨by rfl, fun w => by go_simp⟩) ?_
      go_simp
      refine wpAny_take (i := 5) (v := .string (F.extract j (j + 64))) rfl (by kernel_rfl) (by kernel_rfl) (by kernel_rfl) (fun _ _ _ h => h) (Or.inl ⟨by rfl, fun w => by go_simp⟩) ?_
      go_simp
      refine wpAny_ready (rs := [0]) (by kernel_rfl) (by simp) ?_
      refine AllReady.cons rfl (fun K hK => ?_) AllReady.nil
      rw [if_pos (by rfl)]
      refine wp_load_row 36 (.tmp 4) rfl g rfl 36 (cs X) (0, 0) _ HS.out.row Try.underlying36 rfl (info27 X) ?_
      refine hK _ _ ?_
      clear hK K
      go_simp
      refine wpAny_ready (rs := [6]) (by kernel_rfl) (by simp) ?_
      refine AllReady.cons rfl (fun K hK => ?_) AllReady.nil
      go_simp
      refine (rpress_any X (F.extract j (j + 64)) _ (by rw [ByteArray.size_extract]; omega)).mono ?_
      have hlist : (F.extract j (j + 64)).data.toList = (F.data.toList.drop (64 * k)).take 64 := by rw [← HJ.out]; simp [List.extract_eq_take_drop]
      generalize (F.extract j (j + 64)).data.toList = L at *
      have HLI := Lib.hid hlist
      clear hlist
      rintro e w3 ⟨rfl, hb3⟩
      refine hK _ _ ?_
      clear hK K
      refine wpAny_ready (rs := [7]) (by kernel_rfl) (by simp) ?_
      refine AllReady.cons rfl (fun K hK => ?_) AllReady.nil
      rw [if_pos (by rfl)]
      refine wp_store_row 36 (.tmp 4) (.tmp 23) rfl g _ rfl rfl 36 (cs X) (by rw [hb3.block _ HS.out.lt]; exact HS.out.row) (info27 _) (cs_sizes _ _) (cs_one _) ?_
      refine hK _ _ ?_
      clear hK K
      go_simp
      refine wpAny_done (by kernel_rfl) ?_ _
      go_wp2
      go_roundg (F.size / 64 - (k + 1))
      case rel =>
        have hfin := HS.out.step hb3 (Sh.press X L)
        have e1 : Sh.chain F.data.toList (k + 1) = Sh.press X L := by rw [HNX.out, ← HLI.out]
        refine ⟨k + 1, j + 64, by omega, by have := HJ.out; omega, rfl, ?_, ?_⟩
        · go_num
        · rw [e1]
          exact hfin
      case measure => omega
    · obtain rfl : k = F.size / 64 := by omega
      have h1 : ¬ (j : Int) < F.size := by have := H64.out; omega
      generalize Sh.chain F.data.toList (F.size / 64) = X at *
      have HS := Lib.hid hsu
      clear hsu hj
      go_wp2
      go_loopg [6, 7] 5 (fun gk v i wx => ∃ k : Nat, k ≤ 5 ∧ gk = 5 - k ∧ i = .int .i64 k ∧ Su w wx g X ∧ wx.ownsRow (g + 1) 5 1 v (4 * k) ((Sh.told X k).map fun c => .int .u8 c.toNat))
      case atStart => exact ⟨0, Nat.zero_le _, rfl, rfl, HS.out, World.ownsRow_nil _ _ _ _⟩
      case round =>
        obtain ⟨k, hk, rfl, rfl, hsu, hown⟩ := hrel
        clear HS
        by_cases hlt : k < 5
        · have h1 : (k : Int) < 5 := by omega
          have h0 : (0 : Int) ≤ k := by omega
          have hc := (row_cs hsu.row).cell hlt
          have hglt := hsu.lt
          have hblw := hsu.below.size
          have hlo := hsu.lo
          have hnx : Sh.told X (k + 1) = Sh.told X k ++ Sh.be4 (fld X k) := rfl
          generalize fld X k = x at *
          generalize hxs : ((Sh.told X k).map fun c => Value.int .u8 c.toNat) = xs at *
          have HX := Lib.hid hxs
          have HNX := Lib.hid hnx
          have HO := Lib.hid hown
          have HS := Lib.hid hsu
          clear hxs hnx hown hsu
          have hx0 := tn_nonneg x
          have hx1 := tn_lt x
          obtain ⟨b0, b1, b2, b3, hbe, q0, q1, q2, q3⟩ := be4_parts x
          have HBE := Lib.hid hbe
          have hne : u6.ownBlock ≠ some g := fun e => by have := (HO.out.lt g e).1; omega
          have HF := Lib.hid hne
          clear hbe hne
          go_wp2_with fail
          go_region_held3 (fun w' => w'.cell? ⟨g, k, none⟩ = some (.int .u32 (tn x))) (first | go_keep | (rw [grown_cell hgrow (p := ⟨g, k, none⟩) (by simp; omega) HF.out]; assumption))
            (first | (refine step_append_lies _ (by rfl) _ _ _ (by rfl) (g + 1) 5 i0 _ 1 1 Try.underlying66 HI.out.1 HI.out.2.1 HI.out.2.2.1 HI.out.2.2.2 rfl (by omega) u6 (4 * k) xs (by rfl) ((HO.out.alloc _).drew) ⟨wr.heap.size, 0, none⟩ 4 4 [.int .u8 b0.toNat, .int .u8 b1.toNat, .int .u8 b2.toNat, .int .u8 b3.toNat] (by rfl) (by rfl) (World.news_of_block (cs := #[.int .u8 b0.toNat, .int .u8 b1.toNat, .int .u8 b2.toNat, .int .u8 b3.toNat]) (t := 5) (fr := (0, 0)) (heap_alloc_new wr _)) (by simp [Value.oneCell']) (by omega) (by unfold maxLen; omega) (by omega) (by simp; omega) (wr.heap.size + 1) (by simp) ?_; intro gg cap w1 hown1 hgrow hat hlt1))
          have hsu1 : Su w w1 g X := by
            refine ⟨((HS.out.below.alloc hblw _).drew).grown hgrow (by simp; omega) (fun i hi => by have := (HO.out.lt i hi).1; omega), HS.out.lo, ?_⟩
            rw [hgrow.block g (by simp; omega) (fun e => HF.out e.symm)]
            show (wr.alloc _).heap[g]? = _
            rw [Below.heap_alloc _ _ _ hglt]
            exact HS.out.row
          have hown2 : w1.ownsRow (g + 1) 5 1 (.slice (some ⟨gg, 0, none⟩) (4 * k + 4) cap) (4 * (k + 1)) ((Sh.told X (k + 1)).map fun c => .int .u8 c.toNat) := by
            rw [HNX.out, List.map_append, HX.out, HBE.out]
            exact hown1
          have HS1 := Lib.hid hsu1
          have HO2 := Lib.hid hown2
          clear hsu1 hown2 hown1 hgrow hat hlt1
          go_wp2
          go_roundg (5 - (k + 1))
          case rel => exact ⟨k + 1, by omega, rfl, by go_num, HS1.out, HO2.out⟩
          case measure => omega
        · obtain rfl : k = 5 := by omega
          have hconv := own_text hown
          have HC := Lib.hid hconv
          clear hown
          rw [← HSUM.out] at hconv
          have hbl := hsu.below
          clear hsu
          go_wp2
          go_ret
          exact ⟨rfl, hbl⟩
end Go.Proofs.Ytpffolohkmokhaa.Hs
