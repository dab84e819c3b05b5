/-
  Contracts of the document's own Digits, Begins and Bytes.
-/
import Derived.Test.YtmblabonnioomaaR
import Derived.IntWalk
namespace Go.Proofs.Ytmblabonnioomaa
open Go.RowKit
set_option linter.unusedVariables false

/-- bytes as cells -/
def bcells (l : List UInt8) : List Value := l.map fun c => .int .u8 c.toNat
theorem bcells_length (l : List UInt8) : (bcells l).length = l.length := by simp [bcells]
theorem bcells_append (a b : List UInt8) : bcells (a ++ b) = bcells a ++ bcells b := by simp [bcells]

/-- a row of the call's own, as a text -/
theorem own_string {w : World} {base n : Nat} {v : Value} {l : List UInt8} (h : w.ownsRow base 5 1 v n (bcells l)) : (convert 43 9 v).run Try.prog w = .ok (.string (str l)) w := by
  have hl : l.length = n := by have := h.1; rw [bcells_length] at this; omega
  subst hl
  rcases h.2 with ⟨rfl, h0⟩ | ⟨g, cap, cur, rfl, _, hg, _⟩
  · have : l = [] := List.eq_nil_of_length_eq_zero h0
    subst this
    exact run_convert_bytes_nil w 43 5 Try.underlying43 Try.underlying5 0 0 9 Try.underlying9
  · rw [run_convert_bytes_arg w 43 5 Try.underlying43 Try.underlying5 g 0 l.length cap (l.map fun c => (c.toNat : Int)) (by simp) (fun i hi => by
      have hc := h.cells (g := g) rfl i (.int .u8 (l[i].toNat)) (by simp [bcells, List.getElem?_eq_getElem hi])
      have ha : (⟨g, 0, none⟩ : Addr).add i = ⟨g, 0 + i, none⟩ := by unfold Addr.add; split <;> simp_all
      rw [ha] at hc
      rw [hc]
      simp [List.getD, List.getElem?_eq_getElem hi]) 9 Try.underlying9]
    simp [strOfNums, str, Function.comp_def]

theorem own_drawn {w w' : World} {base e size n : Nat} {v : Value} {xs : List Value} (h : w.ownsRow base e size v n xs) (hd : Drawn w w') : w'.ownsRow base e size v n xs := by
  obtain ⟨m, rfl⟩ := hd
  exact h

theorem digs_snoc (s : ByteArray) (k : Nat) (h : k < s.size) : M.digs ((bl s).take (k + 1)) = M.digs ((bl s).take k) ++ [M.hexc (s[k].toNat / 16), M.hexc (s[k].toNat % 16)] := by
  have hl : k < (bl s).length := by rw [bl_length]; exact h
  rw [List.take_succ_eq_append_getElem hl, M.digs_append]
  rfl

theorem rd_hi (n : Nat) (w : World) (h : n < 256) : Calls Try.prog 29 #[.int .u8 ((n : Int) / 16)] w fun e w' => e = .returned (.int .u8 (M.hexc (n / 16)).toNat) ∧ w = w' := by
  have h' := rdigit_any ((n : Int) / 16) w (by omega) (by omega)
  rwa [show ((n : Int) / 16).toNat = n / 16 by omega] at h'
theorem rd_lo (n : Nat) (w : World) (h : n < 256) : Calls Try.prog 29 #[.int .u8 ((n : Int) % 16)] w fun e w' => e = .returned (.int .u8 (M.hexc (n % 16)).toNat) ∧ w = w' := by
  have h' := rdigit_any ((n : Int) % 16) w (by omega) (by omega)
  rwa [show ((n : Int) % 16).toNat = n % 16 by omega] at h'

set_option maxHeartbeats 1000000 in
set_option maxRecDepth 100000 in
theorem rDigits_any (b : ByteArray) (w : World) (hs : b.size ≤ 100000) :
    Calls Try.prog 15 #[.string b] w fun e w' => e = .returned (.string (str (M.digs (bl b)))) ∧ Below w.heap.size w w' := by
  obtain ⟨i0, hi0, hz0, hz1, hz2⟩ := info_parts Try.info5
  have HI := Lib.hid (And.intro hi0 (And.intro hz0 (And.intro hz1 hz2)))
  clear hi0 hz0 hz1 hz2
  go_enter Try.func15, Try.ntmps15
  go_wp2
  go_loopg [3, 4] b.size (fun g v i wr => ∃ k : Nat, k ≤ b.size ∧ g = b.size - k ∧ i = .int .i64 k ∧ wr.ownsRow w.heap.size 5 1 v (2 * k) (bcells (M.digs ((bl b).take k))) ∧ Below w.heap.size w wr)
  case atStart => exact ⟨0, Nat.zero_le _, rfl, rfl, World.ownsRow_nil _ _ _ _, Below.refl _ _⟩
  case round =>
    obtain ⟨k, hk, rfl, rfl, hown, hbl⟩ := hrel
    by_cases hlt : k < b.size
    · have hst := digs_snoc b k hlt
      have HS := Lib.hid hst
      clear hst
      have HO := Lib.hid hown
      clear hown
      generalize hxs : bcells (M.digs ((bl b).take k)) = xs at *
      have HX := Lib.hid hxs
      clear hxs
      have hk1 : (k : Int) < b.size := by omega
      have hk0 : (0 : Int) ≤ k := by omega
      have h256 : b[k].toNat < 256 := b[k].toNat_lt
      have hsz := hbl.size
      have wq : IntKind.u8.wrap ((b[k].toNat : Int) / 16) = (b[k].toNat : Int) / 16 := by simp [IntKind.wrap, IntKind.bits, IntKind.signed]; omega
      have wm : ((b[k].toNat : Int)).tmod 16 = (b[k].toNat : Int) % 16 := Int.tmod_eq_emod_of_nonneg (by omega)
      have wm2 : IntKind.u8.wrap ((b[k].toNat : Int) % 16) = (b[k].toNat : Int) % 16 := by simp [IntKind.wrap, IntKind.bits, IntKind.signed]; omega
      go_wp2_with fail
      go_region_held3 (fun _ => True) (trivial) (first
        | (refine step_append_lies _ (by rfl) _ _ _ (by rfl) w.heap.size 5 i0 _ 1 1 Try.underlying43 HI.out.1 HI.out.2.1 HI.out.2.2.1 HI.out.2.2.2 rfl (by omega) u3 (2 * k) xs (by rfl) ((HO.out.alloc _).drew) ⟨wr.heap.size, 0, none⟩ 2 2 [.int .u8 (M.hexc (b[k].toNat / 16)).toNat, .int .u8 (M.hexc (b[k].toNat % 16)).toNat] (by rfl) (by rfl) (World.news_of_block (cs := #[.int .u8 (M.hexc (b[k].toNat / 16)).toNat, .int .u8 (M.hexc (b[k].toNat % 16)).toNat]) (t := 5) (fr := (0, 0)) (Deep.blk_alloc_new wr _)) (by simp [Value.oneCell']) (by omega) (by unfold maxLen; omega) (by omega) (by simp; omega) (wr.heap.size + 1) (by simp) ?_; intro gg cap w1 hown1 hgrow hat hlt1)
        | (go_at_call 29; ((with_reducible refine (rd_hi _ _ h256).mono ?_); rintro e w' ⟨rfl, rfl⟩))
        | (go_at_call 29; ((with_reducible refine (rd_lo _ _ h256).mono ?_); rintro e w' ⟨rfl, rfl⟩)))
      all_goals
        have hb2 := ((hbl.alloc hsz _).drew).grown hgrow (by simp; omega) (fun j hj => (HO.out.lt j hj).1)
        have HB := Lib.hid hb2
        have HW := Lib.hid hown1
        clear hb2 hown1 hgrow hat hlt1
        go_wp2
        go_roundg (b.size - (k + 1))
        case rel => exact ⟨k + 1, by omega, rfl, by go_num, by rw [HS.out, bcells_append, HX.out]; exact HW.out, HB.out⟩
        case measure => omega
    · obtain rfl : k = b.size := by omega
      rw [List.take_of_length_le (by rw [bl_length]; omega)] at hown
      have hconv := own_string hown
      go_wp2
      go_ret
      exact ⟨rfl, hbl⟩

theorem begins_beq (b s : ByteArray) (h : s.size ≤ 2 * b.size) : ((((str (M.digs (bl b))).extract 0 s.size).toList == s.toList)) = M.begB (bl b) (bl s) := by
  rw [toList_bl, toList_bl, bl_take, bl_str, Bool.eq_iff_iff, beq_iff_eq, M.begB, List.isPrefixOf_iff_prefix, List.prefix_iff_eq_take, bl_length]
  exact eq_comm

theorem rBegins_any (b s : ByteArray) (w : World) (hb : b.size ≤ 100000) (hs : s.size ≤ 100000) :
    Calls Try.prog 19 #[.string b, .string s] w fun e w' => e = .returned (.bool (M.begB (bl b) (bl s))) ∧ Below w.heap.size w w' := by
  have hsz : (str (M.digs (bl b))).size = 2 * b.size := by rw [str_size, M.digs_length, bl_length]
  by_cases hl : s.size ≤ 2 * b.size
  · have hv := begins_beq b s hl
    have hl' : (s.size : Int) ≤ 2 * (b.size : Int) := by omega
    go_enter Try.func19, Try.ntmps19
    go_wp2_with (go_at_call 15; refine (rDigits_any _ _ hb).mono ?_; rintro e w1 ⟨rfl, hb1⟩)
    go_ret
    exact ⟨rfl, hb1⟩
  · have hv := M.begB_long (b := bl b) (s := bl s) (by rw [bl_length, bl_length]; omega)
    have HV := Lib.hid hv
    have hl' : ¬ (s.size : Int) ≤ 2 * (b.size : Int) := by omega
    clear hv
    go_enter Try.func19, Try.ntmps19
    go_wp2_with (go_at_call 15; refine (rDigits_any _ _ hb).mono ?_; rintro e w1 ⟨rfl, hb1⟩)
    go_ret
    exact ⟨ret_bool HV.out.symm, hb1⟩

theorem byteAt_val (s : ByteArray) (k j : Nat) (h : j + 1 < s.size) : j = 2 * k → ((M.byteAt (bl s) k).toNat : Int) = 16 * (M.worthV s[j] : Int) + (M.worthV s[j + 1] : Int) := by
  rintro rfl
  have h0 := M.worthV_lt s[2 * k]
  have h1 := M.worthV_lt s[2 * k + 1]
  rw [M.byteAt, bl_getD s _ (by omega), bl_getD s _ h, UInt8.toNat_ofNat', Nat.mod_eq_of_lt (by omega)]
  omega
theorem good_iff (s : ByteArray) (k j : Nat) (h : j + 1 < s.size) : j = 2 * k → M.good (bl s) k = (M.worthB s[j] && M.worthB s[j + 1]) := by
  rintro rfl
  rw [M.good, bl_getD s _ (by omega), bl_getD s _ h]

set_option maxHeartbeats 1000000 in
set_option maxRecDepth 100000 in
theorem rBytes_any (s : ByteArray) (w : World) (hs : s.size ≤ 100000) :
    Calls Try.prog 11 #[.string s] w fun e w' => e = .returned (.tuple #[.string (str (M.unb (bl s))), .int .i64 (M.unc (bl s))]) ∧ Below w.heap.size w w' := by
  by_cases hodd : s.size % 2 = 0
  · have hb : ((s.size : Int) % 2 == 1) = false := by simp; omega
    have H := Lib.hid hodd
    clear hodd
    obtain ⟨i0, hi0, hz0, hz1, hz2⟩ := info_parts Try.info5
    have HI := Lib.hid (And.intro hi0 (And.intro hz0 (And.intro hz1 hz2)))
    clear hi0 hz0 hz1 hz2
    go_enter Try.func11, Try.ntmps11
    go_wp2
    go_loopg [4, 5] (s.size / 2) (fun g v i wr => ∃ (k j : Nat), k ≤ s.size / 2 ∧ j = 2 * k ∧ g = s.size / 2 - k ∧ i = .int .i64 j ∧ (∀ m, m < k → M.good (bl s) m = true) ∧ wr.ownsRow w.heap.size 5 1 v k (bcells ((List.range k).map (M.byteAt (bl s)))) ∧ Below w.heap.size w wr)
    case atStart => exact ⟨0, 0, Nat.zero_le _, rfl, rfl, rfl, fun j hj => absurd hj (Nat.not_lt_zero _), World.ownsRow_nil _ _ _ _, Below.refl _ _⟩
    case round =>
      obtain ⟨k, j, hk, hj, rfl, rfl, hgood, hown, hbl⟩ := hrel
      have HG := Lib.hid hgood
      have HO := Lib.hid hown
      clear hgood hown
      by_cases hlt : k < s.size / 2
      · have h2 : j + 1 < s.size := by have := H.out; omega
        have HJ := Lib.hid hj
        clear hj
        have hgi := good_iff s k j h2 HJ.out
        have hbv := byteAt_val s k j h2 HJ.out
        have HBV := Lib.hid hbv
        clear hbv
        have hj1 : (j : Int) < s.size := by omega
        have hj2 : (j : Int) + 1 < s.size := by omega
        have hj3 : (0 : Int) ≤ j := by omega
        have hj4 : (0 : Int) ≤ (j : Int) + 1 := by omega
        have hj5 : ((j : Int) + 1).toNat = j + 1 := by omega
        have hj6 : IntKind.i64.wrap ((j : Int) + 1) = (j : Int) + 1 := IntWalk.i64_in _ (by omega)
        have v0 := M.worthV_lt s[j]
        have v1 := M.worthV_lt s[j + 1]
        have hsz := hbl.size
        cases g0 : M.worthB s[j]
        · have hgk : M.good (bl s) k = false := by rw [hgi, g0]; simp
          have hn := M.undig_bad (bl s) k (by rw [bl_length]; exact hlt) hgk
          have HN := Lib.hid hn
          clear hn hgk hgi
          have hv0 : valI s[j] = 16 := valI_none g0
          clear g0
          go_wp2_with fail
          go_quiet ((go_at_call 27; exact quiet_left (value_any _ _)))
          go_wp2
          go_ret2
          exact ⟨ret_bytes (by simp [M.unb, HN.out, str]) (by simp [M.unc, HN.out]), hbl.trans (Drawn.below ⟨_, rfl⟩ _)⟩
        · cases g1 : M.worthB s[j + 1]
          · have hgk : M.good (bl s) k = false := by rw [hgi, g1]; simp
            have hn := M.undig_bad (bl s) k (by rw [bl_length]; exact hlt) hgk
            have HN := Lib.hid hn
            clear hn hgk hgi
            have hv0 : valI s[j] = (M.worthV s[j] : Int) := valI_yes g0
            have hv1 : valI s[j + 1] = 16 := valI_none g1
            have d0 : decide (15 < (M.worthV s[j] : Int)) = false := by simp; omega
            clear g0 g1
            go_wp2_with fail
            go_quiet ((go_at_call 27; exact quiet_left (value_any _ _)))
            go_wp2
            go_ret2
            exact ⟨ret_bytes (by simp [M.unb, HN.out, str]) (by simp [M.unc, HN.out]), hbl.trans (Drawn.below ⟨_, rfl⟩ _)⟩
          · have hgk : M.good (bl s) k = true := by rw [hgi, g0, g1]; rfl
            have HK := Lib.hid hgk
            clear hgk hgi
            have hv0 : valI s[j] = (M.worthV s[j] : Int) := valI_yes g0
            have hv1 : valI s[j + 1] = (M.worthV s[j + 1] : Int) := valI_yes g1
            have d0 : decide (15 < (M.worthV s[j] : Int)) = false := by simp; omega
            have d1 : decide (15 < (M.worthV s[j + 1] : Int)) = false := by simp; omega
            have hw8 : IntKind.u8.wrap (16 * (M.worthV s[j] : Int) + (M.worthV s[j + 1] : Int)) = 16 * (M.worthV s[j] : Int) + (M.worthV s[j + 1] : Int) := by simp [IntKind.wrap, IntKind.bits, IntKind.signed]; omega
            clear g0 g1
            go_wp2_with fail
            go_quiet ((go_at_call 27; exact quiet_left (value_any _ _)))
            have hdq : Drawn wr (wr.drewN nq) := ⟨nq, rfl⟩
            generalize wr.drewN nq = wq at *
            have HQ := Lib.hid (own_drawn HO.out hdq)
            have hbq := hbl.trans (hdq.below _)
            have hsq := hbq.size
            generalize hxs : bcells ((List.range k).map (M.byteAt (bl s))) = xs at *
            have HX := Lib.hid hxs
            have hkk : k ≤ 100000 := by omega
            clear hxs hdq hbl
            go_wp2_with (at_builtin; refine wpList_append_own_at _ rfl (.tmp 33) (.tmp 39) 43 rfl w.heap.size 5 i0 _ 1 1 Try.underlying43 HI.out.1 HI.out.2.1 HI.out.2.2.1 HI.out.2.2.2 rfl (by omega) u4 k xs rfl (HQ.out.alloc _) ⟨wq.heap.size, 0, none⟩ 1 1 [.int .u8 (16 * (M.worthV s[j] : Int) + (M.worthV s[j + 1] : Int))] rfl rfl (cell_one_new _ _ _) (by simp [Value.oneCell']) (by unfold maxLen; omega) (by omega) (Nat.le_trans hsq (World.grownBy_alloc wq _ none).size) ?_; intro v1 wA hoA hgA hnA hatA; have HA := Lib.hid hoA; have HB2 := Lib.hid ((hbq.alloc hsq _).grown hgA (Nat.le_trans hsq (World.grownBy_alloc wq _ none).size) (fun i hi => (HQ.out.lt i hi).1)); clear hoA hgA hnA hatA)
            go_roundg (s.size / 2 - (k + 1))
            case rel =>
              refine ⟨k + 1, j + 2, by omega, by have := HJ.out; omega, rfl, by go_num, fun m hm => ?_, ?_, HB2.out⟩
              · by_cases e : m = k
                · subst e; exact HK.out
                · exact HG.out m (by omega)
              · rw [List.range_succ, List.map_append, bcells_append, HX.out]
                have := HA.out
                rw [← HBV.out] at this
                exact this
            case measure => omega
      · obtain rfl : k = s.size / 2 := by omega
        have hok := M.undig_ok (bl s) (by rw [bl_length]; exact H.out) (by rw [bl_length]; exact HG.out)
        rw [bl_length] at hok
        have HK := Lib.hid hok
        clear hok
        have hj2 : ¬ (j : Int) < (s.size : Int) := by have := H.out; omega
        have hconv := own_string HO.out
        clear hj
        go_wp2
        go_ret2
        exact ⟨ret_bytes (by simp [M.unb, HK.out]) (by simp [M.unc, HK.out]), hbl⟩
  · have hb : ((s.size : Int) % 2 == 1) = true := by simp; omega
    have H := Lib.hid hodd
    clear hodd
    go_enter Try.func11, Try.ntmps11
    go_wp2
    go_ret2
    have hn : M.undig (bl s) = none := M.undig_odd _ (by rw [bl_length]; have := H.out; omega)
    exact ⟨ret_bytes (by simp [M.unb, hn, str]) (by simp [M.unc, hn]), Below.refl _ _⟩
end Go.Proofs.Ytmblabonnioomaa
