/-
  Proved: for every list of names and every beginning the law HexaOne returns true and leaves its arguments as they were (which names there are beside, that do not begin so, plays no part in what is found, nor does their order).
  Conditions: none beside the row's own.
-/
import Derived.Test.YtmblabonnioomaaP
import Derived.Test.YtmblabonnioomaaF
import Derived.Maps.AppendAt
import Derived.OwnWalk
namespace Go.Proofs.Ytmblabonnioomaa.hexaOne
open Go.ChangeShapes Go.WideShapes Go.ChangeAt Go.RowKit
open Go.ChangeMaps (open_string)
set_option linter.unusedVariables false

theorem Try.info9 : (Try.prog.info? 9).map (fun i => (i.zero, i.size, i.bytes)) = some (some (.string ByteArray.empty), 1, 16) := by kernel_rfl

/-- strings as cells -/
def cells (ts : List ByteArray) : List Value := ts.map Value.string
theorem cells_length (ts : List ByteArray) : (cells ts).length = ts.length := by simp [cells]
theorem cells_snoc (ts : List ByteArray) (x : ByteArray) : cells ts ++ [.string x] = cells (ts ++ [x]) := by simp [cells]

/-- a row of the call's own, as strings -/
theorem own_strs {w : World} {base n : Nat} {v : Value} {ts : List ByteArray} (h : w.ownsRow base 9 1 v n (cells ts)) : ∃ (A : Option Addr) (c : Nat), v = .slice A ts.length c ∧ Strs w w.heap.size A ts := by
  have hl : ts.length = n := by have := h.1; rw [cells_length] at this; omega
  subst hl
  rcases h.2 with ⟨rfl, h0⟩ | ⟨g, cap, cur, rfl, _, hg, _⟩
  · exact ⟨none, 0, by rw [h0], fun i hi => by omega⟩
  · refine ⟨_, cap, rfl, fun i hi => ⟨⟨g, 0, none⟩, rfl, ?_, ?_⟩⟩
    · exact (Array.getElem?_eq_some_iff.1 hg).1
    · have := h.cells (g := g) rfl i (.string (ts.getD i ByteArray.empty)) (by simp [cells, List.getD, List.getElem?_eq_getElem hi])
      exact this

/-- which names were kept -/
def kept (s : List UInt8) (l : List ByteArray) : List ByteArray := l.filter fun x => M.begB (bl x) s
theorem drop_step {ss : List ByteArray} {k : Nat} (h : k < ss.length) : (ss.drop k).reverse = (ss.drop (k + 1)).reverse ++ [ss.getD k ByteArray.empty] := by
  rw [List.drop_eq_getElem_cons h, List.reverse_cons, List.getD_eq_getElem?_getD, List.getElem?_eq_getElem h]
  rfl
theorem find_all (ss : List ByteArray) (s : List UInt8) : M.findR (bls ss.reverse) s = M.findR (bls ss) s :=
  M.findR_same fun x _ => by simp [bls]
theorem find_kept (ss : List ByteArray) (s : List UInt8) : M.findR (bls (kept s ss.reverse)) s = M.findR (bls ss) s :=
  M.findR_same fun x hx => by
    simp only [bls, kept, List.mem_map, List.mem_filter, List.mem_reverse]
    constructor
    · rintro ⟨y, ⟨hy, _⟩, rfl⟩; exact ⟨y, hy, rfl⟩
    · rintro ⟨y, hy, rfl⟩; exact ⟨y, ⟨hy, hx⟩, rfl⟩

/-- two rows of the call's own -/
structure Duo (w0 wr : World) (t1 t2 : List ByteArray) (v1 v2 : Value) : Prop where
  below : Below w0.heap.size w0 wr
  one : wr.ownsRow w0.heap.size 9 1 v1 t1.length (cells t1)
  two : wr.ownsRow w0.heap.size 9 1 v2 t2.length (cells t2)
  apart : v1.ownBlock = none ∨ v2.ownBlock = none ∨ v1.ownBlock ≠ v2.ownBlock
section
variable {w0 wr w' : World} {t1 t2 : List ByteArray} {v1 v2 v' : Value} {x : ByteArray}
theorem Duo.swap (h : Duo w0 wr t1 t2 v1 v2) : Duo w0 wr t2 t1 v2 v1 :=
  ⟨h.below, h.two, h.one, by rcases h.apart with h | h | h; exact .inr (.inl h); exact .inl h; exact .inr (.inr h.symm)⟩
theorem Duo.start (w0 : World) : Duo w0 w0 [] [] (.slice none 0 0) (.slice none 0 0) :=
  ⟨Below.refl _ _, World.ownsRow_nil _ _ _ _, World.ownsRow_nil _ _ _ _, .inl rfl⟩
theorem Duo.drawn (h : Duo w0 wr t1 t2 v1 v2) (hd : Drawn wr w') : Duo w0 w' t1 t2 v1 v2 := by
  have hb := h.below.trans (hd.below _)
  obtain ⟨n, rfl⟩ := hd
  exact ⟨hb, h.one, h.two, h.apart⟩
theorem Duo.push (h : Duo w0 wr t1 t2 v1 v2) (ho : w'.ownsRow w0.heap.size 9 1 v' (t1.length + 1) (cells t1 ++ [.string x])) (hg : (wr.alloc (.cells #[.string x] 9)).grownBy w' v1.ownBlock)
    (hat : v'.ownBlock = v1.ownBlock ∨ v'.ownBlock = some (wr.alloc (.cells #[.string x] 9)).heap.size) : Duo w0 w' (t1 ++ [x]) t2 v' v2 := by
  have hsz : w0.heap.size ≤ (wr.alloc (.cells #[.string x] 9)).heap.size := Nat.le_trans h.below.size (World.grownBy_alloc wr _ none).size
  refine ⟨?_, ?_, ?_, ?_⟩
  · exact (h.below.alloc h.below.size _).grown hg hsz (fun k hk => (h.one.lt k hk).1)
  · rw [cells_snoc] at ho
    simpa using ho
  · refine (h.two.alloc _).kept hg ?_
    rcases h.apart with e | e | e
    · rw [e]
      rcases hv : v2.ownBlock with _ | g
      · exact .inl rfl
      · exact .inr (by simp)
    · exact .inl e
    · exact .inr e.symm
  · rcases hat with e | e
    · rw [e]; exact h.apart
    · rcases hv : v2.ownBlock with _ | g
      · exact .inr (.inl rfl)
      · refine .inr (.inr ?_)
        rw [e]
        have h1 := (h.two.lt g hv).2
        have h2 := (World.grownBy_alloc wr (.cells #[.string x] 9) none).size
        intro e'
        injection e' with e'
        omega
end
theorem kept_yes {s : List UInt8} {l : List ByteArray} {x : ByteArray} (h : M.begB (bl x) s = true) : kept s (l ++ [x]) = kept s l ++ [x] := by simp [kept, h]
theorem kept_no {s : List UInt8} {l : List ByteArray} {x : ByteArray} (h : M.begB (bl x) s = false) : kept s (l ++ [x]) = kept s l := by simp [kept, h]
theorem kept_le (s : List UInt8) (l : List ByteArray) : (kept s l).length ≤ l.length := List.length_filter_le _ _

theorem small_mem {ss ts : List ByteArray} (hz : ∀ i, i < ss.length → (ss.getD i ByteArray.empty).size ≤ 5000) (hsub : ∀ x ∈ ts, x ∈ ss) : ∀ i, i < ts.length → (ts.getD i ByteArray.empty).size ≤ 100000 := fun i hi => by
  have hm : ts.getD i ByteArray.empty ∈ ss := hsub _ (by rw [List.getD_eq_getElem?_getD, List.getElem?_eq_getElem hi]; exact List.getElem_mem hi)
  obtain ⟨j, hj, e⟩ := List.getElem_of_mem hm
  have := hz j hj
  rw [List.getD_eq_getElem?_getD, List.getElem?_eq_getElem hj, Option.getD_some, e] at this
  omega
theorem find_one' (A : Option Addr) (c B : Nat) (ss : List ByteArray) (s : ByteArray) (w : World) (hr : Strs w B A ss.reverse) (hn : ss.length ≤ 200) (hz : ∀ i, i < ss.length → (ss.getD i ByteArray.empty).size ≤ 5000) (hs : s.size ≤ 200) :
    Calls Try.prog 12 #[.slice A ss.length c, .string s] w fun e w' => e = .returned (.tuple #[.string (str (M.findR (bls ss) (bl s)).1), .int .i64 (M.findR (bls ss) (bl s)).2]) ∧ Drawn w w' := by
  have h := Find_any A c B ss.reverse s w hr (by simp; omega) (small_mem hz (by simp)) (by omega)
  rwa [find_all, List.length_reverse] at h
theorem find_two (A : Option Addr) (c B : Nat) (ss : List ByteArray) (s : ByteArray) (w : World) (hr : Strs w B A (kept (bl s) ss.reverse)) (hn : ss.length ≤ 200) (hz : ∀ i, i < ss.length → (ss.getD i ByteArray.empty).size ≤ 5000) (hs : s.size ≤ 200) :
    Calls Try.prog 12 #[.slice A (kept (bl s) ss.reverse).length c, .string s] w fun e w' => e = .returned (.tuple #[.string (str (M.findR (bls ss) (bl s)).1), .int .i64 (M.findR (bls ss) (bl s)).2]) ∧ Drawn w w' := by
  have h := Find_any A c B (kept (bl s) ss.reverse) s w hr (by have := kept_le (bl s) ss.reverse; simp at this; omega) (small_mem hz (fun x hx => by simpa using (List.mem_filter.1 hx).1)) (by omega)
  rwa [find_kept] at h

set_option maxHeartbeats 1000000 in
set_option maxRecDepth 100000 in
theorem walk_small (A : Option Addr) (c B : Nat) (ss : List ByteArray) (s : ByteArray) (w : World) (hr0 : Strs w B A ss) (hB : B ≤ w.heap.size) (hs : s.size ≤ 200) :
    Calls Try.prog 7 #[.slice A ss.length c, .string s] w fun e w' => e = .returned (.bool true) ∧ Below w.heap.size w w' := by
  have HR0 := Lib.hid hr0
  clear hr0
  have ds : decide (200 < (s.size : Int)) = false := by simp; omega
  go_enter Try.func7, Try.ntmps7
  go_wp2_with fail
  refine (awake_any _).mono ?_
  rintro e w1 ⟨rfl, hb1⟩
  have hr1 := HR0.out.below (hb1.mono hB)
  go_wp2_with fail
  refine (few_any _ _ _ _ _ hr1).mono ?_
  rintro e w2 ⟨r, rfl, rfl, hfew⟩
  have HR := Lib.hid hr1
  clear hr1 HR0
  cases r
  · clear hfew
    go_wp2
    go_ret
    exact ⟨rfl, hb1⟩
  · obtain ⟨hn, hz⟩ := hfew rfl
    have HZ := Lib.hid hz
    clear hfew hz
    go_wp2_with fail
    refine (Find_any _ _ _ _ _ _ HR.out (by omega) (fun i hi => by have := HZ.out i hi; omega) (by omega)).mono ?_
    rintro e w2 ⟨rfl, hd2⟩
    have hr2 := HR.out.drawn hd2
    have HR2 := Lib.hid hr2
    clear hr2 HR
    go_wp2
    obtain ⟨i0, hi0, hz0, hz1, hz2⟩ := info_parts Try.info9
    have HI := Lib.hid (And.intro hi0 (And.intro hz0 (And.intro hz1 hz2)))
    clear hi0 hz0 hz1 hz2
    go_loopg [7, 8, 9] ss.length (fun g s7 s8 i wr => ∃ (k : Nat) (y : Int), k ≤ ss.length ∧ g = k ∧ y = (k : Int) - 1 ∧ i = .int .i64 y ∧ Duo w2 wr (ss.drop k).reverse (kept (bl s) (ss.drop k).reverse) s7 s8)
    case atStart => exact ⟨ss.length, _, Nat.le_refl _, rfl, rfl, rfl, by rw [List.drop_length]; exact Duo.start w2⟩
    case round =>
      obtain ⟨k, y, hk, rfl, hy, rfl, hduo⟩ := hrel
      have HD := Lib.hid hduo
      clear hduo
      cases gk with
      | zero =>
        obtain rfl : y = -1 := by omega
        clear hy
        have hduo : Duo w2 wr ss.reverse (kept (bl s) ss.reverse) u7 u8 := HD.out
        obtain ⟨A1, c1, rfl, hs1⟩ := own_strs hduo.one
        obtain ⟨A2, c2, rfl, hs2⟩ := own_strs hduo.two
        have hbw : Below w.heap.size w wr := (hb1.trans (hd2.below _)).trans (hduo.below.mono (by rw [hd2.heap]; exact hb1.size))
        clear HD hduo
        have f1 := fun W h => find_one' A1 c1 wr.heap.size ss s W h hn HZ.out hs
        have f2 := fun W h => find_two A2 c2 wr.heap.size ss s W h hn HZ.out hs
        have HF1 := Lib.hid f1
        have HF2 := Lib.hid f2
        have HS1 := Lib.hid hs1
        have HS2 := Lib.hid hs2
        clear f1 f2 hs1 hs2
        go_wp2_with fail
        with_reducible refine (HF1.out _ HS1.out).mono ?_
        rintro e w3 ⟨rfl, hd3⟩
        have HS3 := Lib.hid (HS2.out.drawn hd3)
        go_wp2_with fail
        with_reducible refine (HF2.out _ HS3.out).mono ?_
        rintro e w4 ⟨rfl, hd4⟩
        go_wp2
        go_ret
        exact ⟨rfl, hbw.trans ((hd3.trans hd4).below _)⟩
      | succ k =>
        obtain rfl : y = (k : Int) := by omega
        clear hy
        have hlt : k < ss.length := by omega
        obtain ⟨ad, rfl, hblk, hc0⟩ := HR2.out k hlt
        have hc : wr.cell? (ad.add k) = some (.string (ss.getD k ByteArray.empty)) := by
          rw [HD.out.below.cell (by rw [block_of_add]; rw [hd2.heap]; exact Nat.lt_of_lt_of_le hblk (Nat.le_trans hB hb1.size))]; exact hc0
        have hblk2 : ad.block < wr.heap.size := Nat.lt_of_lt_of_le (by rw [hd2.heap]; exact Nat.lt_of_lt_of_le hblk (Nat.le_trans hB hb1.size)) HD.out.below.size
        clear hc0
        have hst := drop_step hlt
        have hzk := HZ.out k hlt
        generalize hx : ss.getD k ByteArray.empty = x at *
        have HX := Lib.hid hx
        have HS := Lib.hid hst
        clear hx hst
        have hl1 : (ss.drop (k + 1)).reverse.length ≤ 200 := by simp; omega
        have hl2 := kept_le (bl s) (ss.drop (k + 1)).reverse
        generalize ht1 : (ss.drop (k + 1)).reverse = t1 at *
        generalize ht2 : kept (bl s) t1 = t2 at *
        have HT2 := Lib.hid ht2
        clear ht1 ht2
        have hcl : ∀ (W : World) (a b : List ByteArray) (p q : Value), Duo w2 W a b p q → W.cell? (ad.add k) = some (.string x) := fun W a b p q h => by
          rw [h.below.cell (by rw [block_of_add]; rw [hd2.heap]; exact Nat.lt_of_lt_of_le hblk (Nat.le_trans hB hb1.size)), ← HX.out]
          obtain ⟨ad', e, _, h'⟩ := HR2.out k hlt
          injection e with e
          subst e
          exact h'
        have HC := Lib.hid hcl
        clear hcl
        have h200 : t1.length + 1 ≤ 1000 := by omega
        go_wp2_with (at_builtin; refine wpList_append_own_at _ rfl (.tmp 37) (.tmp 42) 22 rfl w2.heap.size 9 i0 _ 1 16 Try.underlying22 HI.out.1 HI.out.2.1 HI.out.2.2.1 HI.out.2.2.2 rfl (by omega) u7 t1.length (cells t1) rfl (HD.out.one.alloc _) ⟨wr.heap.size, 0, none⟩ 1 1 [.string x] rfl rfl (cell_one_new _ _ _) (by simp [Value.oneCell']) (by unfold maxLen; omega) (by omega) (Nat.le_trans HD.out.below.size (World.grownBy_alloc wr _ none).size) ?_; intro v1 wA hoA hgA hnA hatA; have HA := Lib.hid (HD.out.push hoA hgA hatA); clear hoA hgA hnA hatA; have hcA := HC.out _ _ _ _ _ HA.out)
        refine (Begins_any _ _ _ (by omega) (by omega)).mono ?_
        rintro e wB ⟨rfl, hdB⟩
        have HB := Lib.hid (HA.out.drawn hdB)
        clear hcA hc
        have hcB := HC.out _ _ _ _ _ HB.out
        cases hbg : M.begB (bl x) (bl s)
        · have HK := Lib.hid hbg
          go_wp2
          go_roundg k
          case rel => exact ⟨k, _, by omega, rfl, rfl, rfl, by rw [HS.out, kept_no HK.out, HT2.out]; exact HB.out⟩
          case measure => omega
        · have HK := Lib.hid hbg
          go_wp2_with (at_builtin; refine wpList_append_own_at _ rfl (.tmp 50) (.tmp 55) 22 rfl w2.heap.size 9 i0 _ 1 16 Try.underlying22 HI.out.1 HI.out.2.1 HI.out.2.2.1 HI.out.2.2.2 rfl (by omega) u8 t2.length (cells t2) rfl (HB.out.two.alloc _) ⟨wB.heap.size, 0, none⟩ 1 1 [.string x] rfl rfl (cell_one_new _ _ _) (by simp [Value.oneCell']) (by unfold maxLen; omega) (by omega) (Nat.le_trans HB.out.below.size (World.grownBy_alloc wB _ none).size) ?_; intro v2 wC hoC hgC hnC hatC; have HE := Lib.hid (HB.out.swap.push hoC hgC hatC); clear hoC hgC hnC hatC)
          go_roundg k
          case rel => exact ⟨k, _, by omega, rfl, rfl, rfl, by rw [HS.out, kept_yes HK.out, HT2.out]; exact HE.out.swap⟩
          case measure => omega

theorem walk (A : Option Addr) (c : Nat) (ss : List ByteArray) (a1 : ByteArray) (w : World) (hr : Strs w w.heap.size A ss) (w1 : a1.size ≤ maxLen) :
    Calls Try.prog 7 #[.slice A ss.length c, .string a1] w fun e w' => e = .returned (.bool true) ∧ Below w.heap.size w w' := by
  by_cases h : a1.size ≤ 200
  · exact walk_small A c w.heap.size ss a1 w hr (Nat.le_refl _) h
  · have HR0 := Lib.hid hr
    clear hr w1
    have ds : decide (200 < (a1.size : Int)) = true := by simp; omega
    go_enter Try.func7, Try.ntmps7
    go_wp2_with fail
    refine (awake_any _).mono ?_
    rintro e w1 ⟨rfl, hb1⟩
    have hr1 := HR0.out.below hb1
    go_wp2_with fail
    refine (few_any _ _ _ _ _ hr1).mono ?_
    rintro e w2 ⟨r, rfl, rfl, hfew⟩
    clear hr1 HR0 hfew
    cases r
    · go_wp2
      go_ret
      exact ⟨rfl, hb1⟩
    · go_wp2
      go_ret
      exact ⟨rfl, hb1⟩

theorem own : ownKnob Try.prog.godebug = none := by kernel_rfl

set_option maxRecDepth 100000 in
theorem lifted (os : Os) (started : os.Started) (H : Type) (enc : TypeId × Value → H) :
    ReturnsInHanded {} Try.checked os 7 .any (Rows.hexaOneSpec.pre6 enc Try.prog Try.f7 Rows.hexaOneRow.domain false) (Rows.hexaOneSpec.post enc Try.prog Try.f7 false true false false) := by
  refine returnsInHanded_of_change (C := Try.checked) own started (by kernel_rfl) Try.func7
    (ChangeSpec.witness6 (enc := enc) (C := Try.checked) false ⟨#[], #[.slice none 0 0, .string ByteArray.empty], []⟩ 8 (by kernel_rfl) (by kernel_rfl) (by kernel_rfl) (by kernel_rfl)) ?_
  intro W base args ds gs before hval0 hW hcnd _
  have hval : ∀ (j : Nat) t v, Try.f7.params[j]? = some t → args[j]? = some v → Value.okWide Try.prog W .any base t v := hval0
  have hW' := hW
  obtain ⟨p, q, hA0, hV, rfl, hfz, hnd⟩ := hW
  have hA : DataW.TrodAll enc Try.prog W 0 (fun _ => true) true Try.f7.params.toList args.toList ds p := hA0
  rw [Try.params7] at hA hval
  obtain ⟨v0, vs0, d0, ds0, p0, q0, hargs, rfl, rfl, h0, r0⟩ := trodAll_cons hA
  obtain ⟨v1, vs1, d1, ds1, p1, q1, rfl, rfl, rfl, h1, r1⟩ := trodAll_cons r0
  obtain ⟨rfl, rfl, rfl⟩ := trodAll_nil r1
  obtain rfl : args = #[v0, v1] := by cases args; simp_all
  obtain ⟨rfl, rfl⟩ := trodVars_none hV
  obtain ⟨A0, ss0, c0, rfl, hr0⟩ := open_strs_arg (hval 0 22 v0 rfl rfl) h0
  obtain ⟨a1, rfl, rfl, rfl, w1⟩ := open_string Try.underlying9 (hval 1 9 v1 rfl rfl) h1
  clear hA0 hval0
  refine (walk A0 c0 ss0 a1 W hr0 w1).mono fun e W' ⟨he, hg⟩ => ?_
  subst he
  exact ⟨_, rfl, law_post Try.laid (by kernel_rfl) (by kernel_rfl) Try.underlying4 rfl rfl hW' hg⟩

theorem over : Rows.hexaOneRow.holds Try.pinned (OpenSpec.ofChange Rows.hexaOneSpec) :=
  OpenClaim.holds_of_wide 7 Try.f7 rfl rfl rfl rfl rfl rfl rfl ⟨rfl, rfl, rfl, rfl, rfl⟩ rfl rfl rfl rfl rfl (by kernel_rfl) Try.func7 (by kernel_rfl)
    (of_decide_eq_true (by kernel_rfl)) (by unfold Func.isWrapper; first | (rw [if_pos (by decide +kernel)]; kernel_rfl) | (rw [if_neg (by decide +kernel)]; exact ⟨rfl, rfl⟩))
    (fun os started H enc _ => lifted os started H enc)
end Go.Proofs.Ytmblabonnioomaa.hexaOne

namespace Go.Proofs.Ytmblabonnioomaa
theorem hexaOne_holds : Rows.HexaOneSaid := hexaOne.over
end Go.Proofs.Ytmblabonnioomaa
