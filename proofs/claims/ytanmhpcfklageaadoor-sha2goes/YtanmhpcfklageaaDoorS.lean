/-
  Contracts of the document's own Digits, Begins and Bytes.
-/
import Derived.Test.YtanmhpcfklageaaDoorR
import Derived.IntWalk
namespace Go.Proofs.YtanmhpcfklageaaDoor
open Go.RowKit
set_option linter.unusedVariables false

/-- bytes as cells -/
def bcells (l : List UInt8) : List Value := l.map fun c => .int .u8 c.toNat
theorem bcells_length (l : List UInt8) : (bcells l).length = l.length := by simp [bcells]
theorem bcells_append (a b : List UInt8) : bcells (a ++ b) = bcells a ++ bcells b := by simp [bcells]

/-- a row of the call's own, as a text -/
theorem own_string {w : World} {base n : Nat} {v : Value} {l : List UInt8} (h : w.ownsRow base 5 1 v n (bcells l)) : (convert 39 9 v).run Tryd.prog w = .ok (.string (str l)) w := by
  have hl : l.length = n := by have := h.1; rw [bcells_length] at this; omega
  subst hl
  rcases h.2 with ⟨rfl, h0⟩ | ⟨g, cap, cur, rfl, _, hg, _⟩
  · have : l = [] := List.eq_nil_of_length_eq_zero h0
    subst this
    exact run_convert_bytes_nil w 39 5 Tryd.underlying39 Tryd.underlying5 0 0 9 Tryd.underlying9
  · rw [run_convert_bytes_arg w 39 5 Tryd.underlying39 Tryd.underlying5 g 0 l.length cap (l.map fun c => (c.toNat : Int)) (by simp) (fun i hi => by
      have hc := h.cells (g := g) rfl i (.int .u8 (l[i].toNat)) (by simp [bcells, List.getElem?_eq_getElem hi])
      have ha : (⟨g, 0, none⟩ : Addr).add i = ⟨g, 0 + i, none⟩ := by unfold Addr.add; split <;> simp_all
      rw [ha] at hc
      rw [hc]
      simp [List.getD, List.getElem?_eq_getElem hi]) 9 Tryd.underlying9]
    simp [strOfNums, str, Function.comp_def]

theorem own_drawn {w w' : World} {base e size n : Nat} {v : Value} {xs : List Value} (h : w.ownsRow base e size v n xs) (hd : Drawn w w') : w'.ownsRow base e size v n xs := by
  obtain ⟨m, rfl⟩ := hd
  exact h

theorem digs_snoc (s : ByteArray) (k : Nat) (h : k < s.size) : M.digs ((bl s).take (k + 1)) = M.digs ((bl s).take k) ++ [M.hexc (s[k].toNat / 16), M.hexc (s[k].toNat % 16)] := by
  have hl : k < (bl s).length := by rw [bl_length]; exact h
  rw [List.take_succ_eq_append_getElem hl, M.digs_append]
  rfl

theorem rd_hi (n : Nat) (w : World) (h : n < 256) : Calls Tryd.prog 21 #[.int .u8 ((n : Int) / 16)] w fun e w' => e = .returned (.int .u8 (M.hexc (n / 16)).toNat) ∧ w = w' := by
  have h' := rdigit_any ((n : Int) / 16) w (by omega) (by omega)
  rwa [show ((n : Int) / 16).toNat = n / 16 by omega] at h'
theorem rd_lo (n : Nat) (w : World) (h : n < 256) : Calls Tryd.prog 21 #[.int .u8 ((n : Int) % 16)] w fun e w' => e = .returned (.int .u8 (M.hexc (n % 16)).toNat) ∧ w = w' := by
  have h' := rdigit_any ((n : Int) % 16) w (by omega) (by omega)
  rwa [show ((n : Int) % 16).toNat = n % 16 by omega] at h'

set_option maxHeartbeats 1000000 in
set_option maxRecDepth 100000 in
theorem rDigits_any (b : ByteArray) (w : World) (hs : b.size ≤ 100000) :
    Calls Tryd.prog 13 #[.string b] w fun e w' => e = .returned (.string (str (M.digs (bl b)))) ∧ Below w.heap.size w w' := by
  obtain ⟨i0, hi0, hz0, hz1, hz2⟩ := info_parts Tryd.info5
  have HI := Lib.hid (And.intro hi0 (And.intro hz0 (And.intro hz1 hz2)))
  clear hi0 hz0 hz1 hz2
  go_enter Tryd.func13, Tryd.ntmps13
  go_wp2
  go_loopg [3, 4] b.size (fun g v i wr => ∃ k : Nat, k ≤ b.size ∧ g = b.size - k ∧ i = .int .i64 k ∧ wr.ownsRow w.heap.size 5 1 v (2 * k) (bcells (M.digs ((bl b).take k))) ∧ Below w.heap.size w wr)
  case atStart => exact ⟨0, Nat.zero_le _, rfl, rfl, World.ownsRow_nil _ _ _ _, Below.refl _ _⟩
  case round =>
    obtain ⟨k, hk, rfl, rfl, hown, hbl⟩ := hrel
    by_cases hlt : k < b.size
    · have hst := digs_snoc b k hlt
      have HS := Lib.hid hst
      clear hst
      have HO := Lib.hid hown
      clear hown
      generalize hxs : bcells (M.digs ((bl b).take k)) = xs at *
      have HX := Lib.hid hxs
      clear hxs
      have hk1 : (k : Int) < b.size := by omega
      have hk0 : (0 : Int) ≤ k := by omega
      have h256 : b[k].toNat < 256 := b[k].toNat_lt
      have hsz := hbl.size
      have wq : IntKind.u8.wrap ((b[k].toNat : Int) / 16) = (b[k].toNat : Int) / 16 := by simp [IntKind.wrap, IntKind.bits, IntKind.signed]; omega
      have wm : ((b[k].toNat : Int)).tmod 16 = (b[k].toNat : Int) % 16 := Int.tmod_eq_emod_of_nonneg (by omega)
      have wm2 : IntKind.u8.wrap ((b[k].toNat : Int) % 16) = (b[k].toNat : Int) % 16 := by simp [IntKind.wrap, IntKind.bits, IntKind.signed]; omega
      go_wp2_with fail
      go_region_held3 (fun _ => True) (trivial) (first
        | (refine step_append_lies _ (by rfl) _ _ _ (by rfl) w.heap.size 5 i0 _ 1 1 Tryd.underlying39 HI.out.1 HI.out.2.1 HI.out.2.2.1 HI.out.2.2.2 rfl (by omega) u3 (2 * k) xs (by rfl) ((HO.out.alloc _).drew) ⟨wr.heap.size, 0, none⟩ 2 2 [.int .u8 (M.hexc (b[k].toNat / 16)).toNat, .int .u8 (M.hexc (b[k].toNat % 16)).toNat] (by rfl) (by rfl) (World.news_of_block (cs := #[.int .u8 (M.hexc (b[k].toNat / 16)).toNat, .int .u8 (M.hexc (b[k].toNat % 16)).toNat]) (t := 5) (fr := (0, 0)) (Deep.blk_alloc_new wr _)) (by simp [Value.oneCell']) (by omega) (by unfold maxLen; omega) (by omega) (by simp; omega) (wr.heap.size + 1) (by simp) ?_; intro gg cap w1 hown1 hgrow hat hlt1)
        | (go_at_call 21; ((with_reducible refine (rd_hi _ _ h256).mono ?_); rintro e w' ⟨rfl, rfl⟩))
        | (go_at_call 21; ((with_reducible refine (rd_lo _ _ h256).mono ?_); rintro e w' ⟨rfl, rfl⟩)))
      all_goals
        have hb2 := ((hbl.alloc hsz _).drew).grown hgrow (by simp; omega) (fun j hj => (HO.out.lt j hj).1)
        have HB := Lib.hid hb2
        have HW := Lib.hid hown1
        clear hb2 hown1 hgrow hat hlt1
        go_wp2
        go_roundg (b.size - (k + 1))
        case rel => exact ⟨k + 1, by omega, rfl, by go_num, by rw [HS.out, bcells_append, HX.out]; exact HW.out, HB.out⟩
        case measure => omega
    · obtain rfl : k = b.size := by omega
      rw [List.take_of_length_le (by rw [bl_length]; omega)] at hown
      have hconv := own_string hown
      go_wp2
      go_ret
      exact ⟨rfl, hbl⟩

theorem begins_beq (b s : ByteArray) (h : s.size ≤ 2 * b.size) : ((((str (M.digs (bl b))).extract 0 s.size).toList == s.toList)) = M.begB (bl b) (bl s) := by
  rw [toList_bl, toList_bl, bl_take, bl_str, Bool.eq_iff_iff, beq_iff_eq, M.begB, List.isPrefixOf_iff_prefix, List.prefix_iff_eq_take, bl_length]
  exact eq_comm

theorem byteAt_val (s : ByteArray) (k j : Nat) (h : j + 1 < s.size) : j = 2 * k → ((M.byteAt (bl s) k).toNat : Int) = 16 * (M.worthV s[j] : Int) + (M.worthV s[j + 1] : Int) := by
  rintro rfl
  have h0 := M.worthV_lt s[2 * k]
  have h1 := M.worthV_lt s[2 * k + 1]
  rw [M.byteAt, bl_getD s _ (by omega), bl_getD s _ h, UInt8.toNat_ofNat', Nat.mod_eq_of_lt (by omega)]
  omega
theorem good_iff (s : ByteArray) (k j : Nat) (h : j + 1 < s.size) : j = 2 * k → M.good (bl s) k = (M.worthB s[j] && M.worthB s[j + 1]) := by
  rintro rfl
  rw [M.good, bl_getD s _ (by omega), bl_getD s _ h]

end Go.Proofs.YtanmhpcfklageaaDoor