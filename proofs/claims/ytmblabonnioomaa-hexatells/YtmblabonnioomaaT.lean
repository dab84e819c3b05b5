/-
  Contracts of the document's own Find and Least.
-/
import Derived.Test.YtmblabonnioomaaS
import Derived.Test.YtmblabonnioomaaF
import Derived.Deep.RegionWith
namespace Go.Proofs.Ytmblabonnioomaa
open Go.RowKit
set_option linter.unusedVariables false

theorem Try.info9 : (Try.prog.info? 9).map (fun i => (i.zero, i.size, i.bytes)) = some (some (.string ByteArray.empty), 1, 16) := by kernel_rfl

/-- strings as cells -/
def scells (ts : List ByteArray) : List Value := ts.map Value.string
theorem scells_length (ts : List ByteArray) : (scells ts).length = ts.length := by simp [scells]
theorem scells_snoc (ts : List ByteArray) (x : ByteArray) : scells ts ++ [.string x] = scells (ts ++ [x]) := by simp [scells]
theorem own_strs {w : World} {base n : Nat} {v : Value} {ts : List ByteArray} (h : w.ownsRow base 9 1 v n (scells ts)) : ∃ (A : Option Addr) (c : Nat), v = .slice A ts.length c ∧ Strs w w.heap.size A ts := by
  have hl : ts.length = n := by have := h.1; rw [scells_length] at this; omega
  subst hl
  rcases h.2 with ⟨rfl, h0⟩ | ⟨g, cap, cur, rfl, _, hg, _⟩
  · exact ⟨none, 0, by rw [h0], fun i hi => by omega⟩
  · refine ⟨_, cap, rfl, fun i hi => ⟨⟨g, 0, none⟩, rfl, ?_, ?_⟩⟩
    · exact (Array.getElem?_eq_some_iff.1 hg).1
    · have := h.cells (g := g) rfl i (.string (ts.getD i ByteArray.empty)) (by simp [scells, List.getD, List.getElem?_eq_getElem hi])
      exact this

/-- a row that only the call owns stays, if all below a higher block stays -/
theorem own_below {w w' : World} {base n : Nat} {e : TypeId} {v : Value} {xs : List Value} (h : w.ownsRow base e 1 v n xs) (hb : Below w.heap.size w w') : w'.ownsRow base e 1 v n xs := by
  refine ⟨h.1, ?_⟩
  rcases h.2 with h0 | ⟨g, cap, cur, hv, hle, hg, h1⟩
  · exact .inl h0
  · exact .inr ⟨g, cap, cur, hv, hle, (hb.block g (Array.getElem?_eq_some_iff.1 hg).1).trans hg, h1⟩

/-- what the document's Find has listed behind k names -/
def Listed (ss : List ByteArray) (s : List UInt8) (k : Nat) : List ByteArray → Prop
  | [] => ∀ j, j < k → M.begB (bl (ss.getD j ByteArray.empty)) s = false
  | x :: r => (∃ m, m < k ∧ ss.getD m ByteArray.empty = x) ∧ M.begB (bl x) s = true ∧ (r = [] → ∀ j, j < k → M.begB (bl (ss.getD j ByteArray.empty)) s = true → ss.getD j ByteArray.empty = x) ∧
      (∀ y ∈ r, y ≠ x ∧ M.begB (bl y) s = true ∧ ∃ m, m < k ∧ ss.getD m ByteArray.empty = y)

section
variable {ss : List ByteArray} {s : List UInt8} {k : Nat} {t : List ByteArray} {y x : ByteArray} {r : List ByteArray}
theorem listed_skip (h : Listed ss s k t) (hb : M.begB (bl (ss.getD k ByteArray.empty)) s = false) : Listed ss s (k + 1) t := by
  cases t with
  | nil =>
    intro j hj
    by_cases e : j = k
    · subst e; exact hb
    · exact h j (by omega)
  | cons x r =>
    obtain ⟨⟨m, hm, e1⟩, hx, h1, h2⟩ := h
    refine ⟨⟨m, by omega, e1⟩, hx, fun hr j hj hbj => ?_, fun y hy => ?_⟩
    · by_cases e : j = k
      · subst e; rw [hb] at hbj; cases hbj
      · exact h1 hr j (by omega) hbj
    · obtain ⟨a, b, m', hm', e'⟩ := h2 y hy
      exact ⟨a, b, m', by omega, e'⟩
theorem listed_first (h : Listed ss s k []) (hb : M.begB (bl (ss.getD k ByteArray.empty)) s = true) : Listed ss s (k + 1) [ss.getD k ByteArray.empty] := by
  refine ⟨⟨k, by omega, rfl⟩, hb, fun _ j hj hbj => ?_, fun y hy => by cases hy⟩
  by_cases e : j = k
  · subst e; rfl
  · rw [h j (by omega)] at hbj; cases hbj
theorem listed_same (h : Listed ss s k (x :: r)) (he : ss.getD k ByteArray.empty = x) : Listed ss s (k + 1) (x :: r) := by
  obtain ⟨⟨m, hm, e1⟩, hx, h1, h2⟩ := h
  refine ⟨⟨m, by omega, e1⟩, hx, fun hr j hj hbj => ?_, fun y hy => ?_⟩
  · by_cases e : j = k
    · subst e; exact he
    · exact h1 hr j (by omega) hbj
  · obtain ⟨a, b, m', hm', e'⟩ := h2 y hy
    exact ⟨a, b, m', by omega, e'⟩
theorem listed_more (h : Listed ss s k (x :: r)) (hne : ss.getD k ByteArray.empty ≠ x) (hb : M.begB (bl (ss.getD k ByteArray.empty)) s = true) : Listed ss s (k + 1) ((x :: r) ++ [ss.getD k ByteArray.empty]) := by
  obtain ⟨⟨m, hm, e1⟩, hx, h1, h2⟩ := h
  refine ⟨⟨m, by omega, e1⟩, hx, fun hr => by simp at hr, fun y hy => ?_⟩
  rcases List.mem_append.1 hy with hy | hy
  · obtain ⟨a, b, m', hm', e'⟩ := h2 y hy
    exact ⟨a, b, m', by omega, e'⟩
  · simp at hy
    subst hy
    exact ⟨hne, hb, k, by omega, rfl⟩
theorem listed_none (hs : M.shortC s = 0) (h : Listed ss s ss.length []) : M.findR (bls ss) s = ([], 5) := found_none hs h
theorem listed_one (hs : M.shortC s = 0) (h : Listed ss s ss.length [x]) : M.findR (bls ss) s = (bl x, 0) := by
  obtain ⟨⟨m, hm, rfl⟩, hx, h1, _⟩ := h
  exact found_one hs hm hx (h1 rfl)
theorem listed_many (hs : M.shortC s = 0) (h : Listed ss s ss.length (x :: y :: r)) : M.findR (bls ss) s = ([], 11) := by
  obtain ⟨⟨m, hm, rfl⟩, hx, _, h2⟩ := h
  obtain ⟨hne, hy, m', hm', rfl⟩ := h2 y (by simp)
  exact found_many hs hm' hy hm hx hne
end

theorem rBegins_val (b s : ByteArray) (w : World) (hb : b.size ≤ 100000) (hs : s.size ≤ 100000) {v : Bool} (h : M.begB (bl b) (bl s) = v) :
    Calls Try.prog 19 #[.string b, .string s] w fun e w' => e = .returned (.bool v) ∧ Below w.heap.size w w' := h ▸ rBegins_any b s w hb hs

set_option maxHeartbeats 1000000 in
set_option maxRecDepth 100000 in
theorem rFind_any (A : Option Addr) (c B : Nat) (ss : List ByteArray) (s : ByteArray) (w : World) (hr : Strs w B A ss) (hB : B ≤ w.heap.size) (hn : ss.length ≤ 200) (hz : ∀ i, i < ss.length → (ss.getD i ByteArray.empty).size ≤ 5000) (hs : s.size ≤ 500) :
    Calls Try.prog 13 #[.slice A ss.length c, .string s] w fun e w' => e = .returned (.tuple #[.string (str (M.findR (bls ss) (bl s)).1), .int .i64 (M.findR (bls ss) (bl s)).2]) ∧ Below w.heap.size w w' := by
  by_cases hsh : M.shortC (bl s) = 0
  · have h0 : (M.shortC (bl s) != 0) = false := by rw [hsh]; rfl
    have HS := Lib.hid hsh
    have HR := Lib.hid hr
    have HZ := Lib.hid hz
    clear hsh hr hz
    obtain ⟨i0, hi0, hz0, hz1, hz2⟩ := info_parts Try.info9
    have HI := Lib.hid (And.intro hi0 (And.intro hz0 (And.intro hz1 hz2)))
    clear hi0 hz0 hz1 hz2
    go_enter Try.func13, Try.ntmps13
    go_wp2_with (go_at_call 17; refine (rShort_any _ _ (by omega)).mono ?_; rintro e w' ⟨rfl, rfl⟩)
    go_loopg [7, 8] ss.length (fun g v i wr => ∃ (k : Nat) (t : List ByteArray), k ≤ ss.length ∧ g = ss.length - k ∧ i = .int .i64 k ∧ Listed ss (bl s) k t ∧ t.length ≤ k ∧ wr.ownsRow w.heap.size 9 1 v t.length (scells t) ∧ Below w.heap.size w wr)
    case atStart => exact ⟨0, [], Nat.zero_le _, rfl, rfl, fun j hj => absurd hj (Nat.not_lt_zero _), Nat.le_refl _, World.ownsRow_nil _ _ _ _, Below.refl _ _⟩
    case round =>
      obtain ⟨k, t, hk, rfl, rfl, hL, htk, hown, hbl⟩ := hrel
      have HL := Lib.hid hL
      have HO := Lib.hid hown
      clear hL
      obtain ⟨A1, c1, rfl, hs1⟩ := own_strs hown
      have HS1 := Lib.hid hs1
      clear hs1 hown
      by_cases hlt : k < ss.length
      · obtain ⟨ad, rfl, hblk, hc0⟩ := HR.out k hlt
        have hblk2 : ad.block < wr.heap.size := Nat.lt_of_lt_of_le hblk (Nat.le_trans hB hbl.size)
        have hc : wr.cell? (ad.add k) = some (.string (ss.getD k ByteArray.empty)) := by rw [hbl.cell (by rw [block_of_add]; exact Nat.lt_of_lt_of_le hblk hB)]; exact hc0
        clear hc0
        have hzk := HZ.out k hlt
        generalize hy : ss.getD k ByteArray.empty = y at *
        have HY := Lib.hid hy
        clear hy
        have hk1 : (k : Int) < ss.length := by omega
        have hk0 : (0 : Int) ≤ k := by omega
        cases hbeg : M.begB (bl y) (bl s)
        · have HB := Lib.hid hbeg
          go_wp2_with fail
          refine wp_region_any (by kernel_rfl) ?_
          change wpAny _ _ _ _ _ _ _ (World.drew _)
          refine wpAny_take (i := 0) (v := .slice (some ad) ss.length c) rfl (by kernel_rfl) (by kernel_rfl) (by kernel_rfl) (fun _ _ _ h => h) (Or.inl ⟨by rfl, fun w => by go_simp⟩) ?_
          go_simp
          refine wpAny_take (i := 1) (v := .int .i64 k) rfl (by kernel_rfl) (by kernel_rfl) (by kernel_rfl) (fun _ _ _ h => h) (Or.inl ⟨by rfl, fun w => by go_simp⟩) ?_
          go_simp
          refine wpAny_take (i := 2) (v := .pointer (some (ad.add k))) rfl (by kernel_rfl) (by kernel_rfl) (by kernel_rfl) (fun _ _ _ h => h) (Or.inl ⟨by rfl, fun w => by go_simp⟩) ?_
          go_simp
          refine wpAny_take (i := 4) (v := .string s) rfl (by kernel_rfl) (by kernel_rfl) (by kernel_rfl) (fun _ _ _ h => h) (Or.inl ⟨by rfl, fun w => by go_simp⟩) ?_
          go_simp
          refine wpAny_ready (rs := [3]) (by kernel_rfl) (by simp) ?_
          refine AllReady.cons rfl (fun K hK => ?_) AllReady.nil
          go_simp
          refine hK _ _ ?_
          clear hK K
          refine wpAny_ready (rs := [5]) (by kernel_rfl) (by simp) ?_
          refine AllReady.cons rfl (fun K hK => ?_) AllReady.nil
          go_simp
          refine (rBegins_val _ _ _ (by omega) (by omega) hbeg).mono ?_
          rintro e w1 ⟨rfl, hb1⟩
          refine hK _ _ ?_
          clear hK K
          refine wpAny_take (i := 6) (v := .bool false) rfl (by kernel_rfl) (by kernel_rfl) (by kernel_rfl) (fun _ _ _ h => h) (Or.inl ⟨by rfl, fun w => by go_simp⟩) ?_
          go_simp
          refine wpAny_take (i := 7) (v := undef) rfl (by kernel_rfl) (by kernel_rfl) (by kernel_rfl) (fun _ _ _ h => h) (Or.inr ⟨by rfl, rfl⟩) ?_
          go_simp
          refine wpAny_take (i := 8) (v := undef) rfl (by kernel_rfl) (by kernel_rfl) (by kernel_rfl) (fun _ _ _ h => h) (Or.inr ⟨by rfl, rfl⟩) ?_
          go_simp
          refine wpAny_take (i := 9) (v := undef) rfl (by kernel_rfl) (by kernel_rfl) (by kernel_rfl) (fun _ _ _ h => h) (Or.inr ⟨by rfl, rfl⟩) ?_
          go_simp
          refine wpAny_take (i := 10) (v := undef) rfl (by kernel_rfl) (by kernel_rfl) (by kernel_rfl) (fun _ _ _ h => h) (Or.inr ⟨by rfl, rfl⟩) ?_
          go_simp
          refine wpAny_take (i := 11) (v := undef) rfl (by kernel_rfl) (by kernel_rfl) (by kernel_rfl) (fun _ _ _ h => h) (Or.inr ⟨by rfl, rfl⟩) ?_
          go_simp
          refine wpAny_take (i := 12) (v := undef) rfl (by kernel_rfl) (by kernel_rfl) (by kernel_rfl) (fun _ _ _ h => h) (Or.inr ⟨by rfl, rfl⟩) ?_
          go_simp
          refine wpAny_take (i := 14) (v := undef) rfl (by kernel_rfl) (by kernel_rfl) (by kernel_rfl) (fun _ _ _ h => h) (Or.inr ⟨by rfl, rfl⟩) ?_
          go_simp
          refine wpAny_take (i := 15) (v := undef) rfl (by kernel_rfl) (by kernel_rfl) (by kernel_rfl) (fun _ _ _ h => h) (Or.inr ⟨by rfl, rfl⟩) ?_
          go_simp
          refine wpAny_take (i := 16) (v := undef) rfl (by kernel_rfl) (by kernel_rfl) (by kernel_rfl) (fun _ _ _ h => h) (Or.inr ⟨by rfl, rfl⟩) ?_
          go_simp
          refine wpAny_take (i := 13) (v := undef) rfl (by kernel_rfl) (by kernel_rfl) (by kernel_rfl) (fun _ _ _ h => h) (Or.inr ⟨by rfl, rfl⟩) ?_
          go_simp
          refine wpAny_take (i := 17) (v := undef) rfl (by kernel_rfl) (by kernel_rfl) (by kernel_rfl) (fun _ _ _ h => h) (Or.inr ⟨by rfl, rfl⟩) ?_
          go_simp
          refine wpAny_take (i := 18) (v := undef) rfl (by kernel_rfl) (by kernel_rfl) (by kernel_rfl) (fun _ _ _ h => h) (Or.inr ⟨by rfl, rfl⟩) ?_
          go_simp
          refine wpAny_take (i := 19) (v := undef) rfl (by kernel_rfl) (by kernel_rfl) (by kernel_rfl) (fun _ _ _ h => h) (Or.inr ⟨by rfl, rfl⟩) ?_
          go_simp
          refine wpAny_take (i := 20) (v := .bool false) rfl (by kernel_rfl) (by kernel_rfl) (by kernel_rfl) (fun _ _ _ h => h) (Or.inl ⟨by rfl, fun w => by go_simp⟩) ?_
          go_simp
          refine wpAny_done (by kernel_rfl) ?_ _
          go_wp2
          go_roundg (ss.length - (k + 1))
          case rel => exact ⟨k + 1, t, by omega, rfl, by go_num, listed_skip HL.out (by rw [HY.out]; exact HB.out), by omega, own_below (w := wr.drew) HO.out hb1, (hbl.drew).trans (hb1.mono hbl.size)⟩
          case measure => omega
        · have HB := Lib.hid hbeg
          cases t with
          | nil =>
            have htk0 : k + 1 ≤ 1000 := by omega
            go_wp2_with fail
            refine wp_region_any (by kernel_rfl) ?_
            change wpAny _ _ _ _ _ _ _ (World.drew _)
            refine wpAny_take (i := 0) (v := .slice (some ad) ss.length c) rfl (by kernel_rfl) (by kernel_rfl) (by kernel_rfl) (fun _ _ _ h => h) (Or.inl ⟨by rfl, fun w => by go_simp⟩) ?_
            go_simp
            refine wpAny_take (i := 1) (v := .int .i64 k) rfl (by kernel_rfl) (by kernel_rfl) (by kernel_rfl) (fun _ _ _ h => h) (Or.inl ⟨by rfl, fun w => by go_simp⟩) ?_
            go_simp
            refine wpAny_take (i := 2) (v := .pointer (some (ad.add k))) rfl (by kernel_rfl) (by kernel_rfl) (by kernel_rfl) (fun _ _ _ h => h) (Or.inl ⟨by rfl, fun w => by go_simp⟩) ?_
            go_simp
            refine wpAny_take (i := 4) (v := .string s) rfl (by kernel_rfl) (by kernel_rfl) (by kernel_rfl) (fun _ _ _ h => h) (Or.inl ⟨by rfl, fun w => by go_simp⟩) ?_
            go_simp
            refine wpAny_ready (rs := [3]) (by kernel_rfl) (by simp) ?_
            refine AllReady.cons rfl (fun K hK => ?_) AllReady.nil
            go_simp
            refine hK _ _ ?_
            clear hK K
            refine wpAny_ready (rs := [5]) (by kernel_rfl) (by simp) ?_
            refine AllReady.cons rfl (fun K hK => ?_) AllReady.nil
            go_simp
            refine (rBegins_val _ _ _ (by omega) (by omega) hbeg).mono ?_
            rintro e w1 ⟨rfl, hb1⟩
            refine hK _ _ ?_
            clear hK K
            refine wpAny_take (i := 6) (v := .bool true) rfl (by kernel_rfl) (by kernel_rfl) (by kernel_rfl) (fun _ _ _ h => h) (Or.inl ⟨by rfl, fun w => by go_simp⟩) ?_
            go_simp
            refine wpAny_take (i := 7) (v := .slice A1 0 c1) rfl (by kernel_rfl) (by kernel_rfl) (by kernel_rfl) (fun _ _ _ h => h) (Or.inl ⟨by rfl, fun w => by go_simp⟩) ?_
            go_simp
            refine wpAny_take (i := 8) (v := .int .i64 0) rfl (by kernel_rfl) (by kernel_rfl) (by kernel_rfl) (fun _ _ _ h => h) (Or.inl ⟨by rfl, fun w => by go_simp⟩) ?_
            go_simp
            refine wpAny_take (i := 9) (v := .bool true) rfl (by kernel_rfl) (by kernel_rfl) (by kernel_rfl) (fun _ _ _ h => h) (Or.inl ⟨by rfl, fun w => by go_simp⟩) ?_
            go_simp
            refine wpAny_take (i := 10) (v := .bool true) rfl (by kernel_rfl) (by kernel_rfl) (by kernel_rfl) (fun _ _ _ h => h) (Or.inl ⟨by rfl, fun w => by go_simp⟩) ?_
            go_simp
            refine wpAny_take (i := 11) (v := undef) rfl (by kernel_rfl) (by kernel_rfl) (by kernel_rfl) (fun _ _ _ h => h) (Or.inr ⟨by rfl, rfl⟩) ?_
            go_simp
            refine wpAny_take (i := 12) (v := undef) rfl (by kernel_rfl) (by kernel_rfl) (by kernel_rfl) (fun _ _ _ h => h) (Or.inr ⟨by rfl, rfl⟩) ?_
            go_simp
            refine wpAny_take (i := 14) (v := undef) rfl (by kernel_rfl) (by kernel_rfl) (by kernel_rfl) (fun _ _ _ h => h) (Or.inr ⟨by rfl, rfl⟩) ?_
            go_simp
            refine wpAny_take (i := 15) (v := undef) rfl (by kernel_rfl) (by kernel_rfl) (by kernel_rfl) (fun _ _ _ h => h) (Or.inr ⟨by rfl, rfl⟩) ?_
            go_simp
            refine wpAny_take (i := 16) (v := undef) rfl (by kernel_rfl) (by kernel_rfl) (by kernel_rfl) (fun _ _ _ h => h) (Or.inr ⟨by rfl, rfl⟩) ?_
            go_simp
            refine wpAny_take (i := 13) (v := undef) rfl (by kernel_rfl) (by kernel_rfl) (by kernel_rfl) (fun _ _ _ h => h) (Or.inr ⟨by rfl, rfl⟩) ?_
            go_simp
            refine wpAny_take (i := 17) (v := undef) rfl (by kernel_rfl) (by kernel_rfl) (by kernel_rfl) (fun _ _ _ h => h) (Or.inr ⟨by rfl, rfl⟩) ?_
            go_simp
            refine wpAny_take (i := 18) (v := undef) rfl (by kernel_rfl) (by kernel_rfl) (by kernel_rfl) (fun _ _ _ h => h) (Or.inr ⟨by rfl, rfl⟩) ?_
            go_simp
            refine wpAny_take (i := 19) (v := .bool true) rfl (by kernel_rfl) (by kernel_rfl) (by kernel_rfl) (fun _ _ _ h => h) (Or.inl ⟨by rfl, fun w => by go_simp⟩) ?_
            go_simp
            refine wpAny_take (i := 20) (v := .bool true) rfl (by kernel_rfl) (by kernel_rfl) (by kernel_rfl) (fun _ _ _ h => h) (Or.inl ⟨by rfl, fun w => by go_simp⟩) ?_
            go_simp
            refine wpAny_done (by kernel_rfl) ?_ _
            have hbw1 : Below w.heap.size w w1 := (hbl.drew).trans (hb1.mono hbl.size)
            have HO1 := Lib.hid (own_below (w := wr.drew) HO.out hb1)
            have hcw : w1.cell? (ad.add k) = some (.string y) := by rw [hb1.cell (by rw [block_of_add]; exact hblk2)]; exact hc
            have hsw := hbw1.size
            clear hb1 hbl HO HS1 hc
            go_wp2_with (at_builtin; refine wpList_append_own_at _ rfl (.tmp 41) (.tmp 46) 22 rfl w.heap.size 9 i0 _ 1 16 Try.underlying22 HI.out.1 HI.out.2.1 HI.out.2.2.1 HI.out.2.2.2 rfl (by omega) (.slice A1 0 c1) 0 [] rfl (HO1.out.alloc _) ⟨w1.heap.size, 0, none⟩ 1 1 [.string y] rfl rfl (cell_one_new _ _ _) (by simp [Value.oneCell']) (by unfold maxLen; omega) (by omega) (Nat.le_trans hsw (World.grownBy_alloc w1 _ none).size) ?_; intro v1 wA hoA hgA hnA hatA; have HA := Lib.hid hoA; have HB2 := Lib.hid ((hbw1.alloc hsw _).grown hgA (Nat.le_trans hsw (World.grownBy_alloc w1 _ none).size) (fun i hi => (HO1.out.lt i hi).1)); clear hoA hgA hnA hatA)
            go_roundg (ss.length - (k + 1))
            case rel => exact ⟨k + 1, [y], by omega, rfl, by go_num, by have := listed_first HL.out (by rw [HY.out]; exact HB.out); rwa [HY.out] at this, by simp, HA.out, HB2.out⟩
            case measure => omega
          | cons x r =>
            obtain ⟨ad1, rfl, hblk1, hc1⟩ := HS1.out 0 (by simp)
            have hcx : wr.cell? ad1 = some (.string x) := hc1
            clear hc1
            have hlen0 : (((x :: r).length : Int) == 0) = false := by simp; omega
            have hlen1 : ((r.length : Int) + 1 == 0) = false := by simp; omega
            by_cases hxy : x = y
            · have he : (x.toList == y.toList) = true := str_beq hxy
              have HE := Lib.hid hxy
              clear hxy
              go_wp2_with fail
              go_region_held3 (fun w' => w'.cell? (ad.add k) = some (.string y) ∧ w'.cell? ad1 = some (.string x)) (first | go_keep | exact ⟨by rw [hb1.cell (by rw [block_of_add]; exact hblk2)]; exact hc, by rw [hb1.cell hblk1]; exact hcx⟩)
                (first | (go_at_call 19; refine (rBegins_val _ _ _ (by omega) (by omega) hbeg).mono ?_; rintro e w1 ⟨rfl, hb1⟩))
              go_wp2
              go_roundg (ss.length - (k + 1))
              case rel => exact ⟨k + 1, x :: r, by omega, rfl, by go_num, listed_same HL.out (by rw [HY.out]; exact HE.out.symm), by omega, own_below (w := wr.drew) HO.out hb1, (hbl.drew).trans (hb1.mono hbl.size)⟩
              case measure => omega
            · have he : (x.toList == y.toList) = false := str_bne hxy
              have HE := Lib.hid hxy
              clear hxy
              go_wp2_with fail
              go_region_held3 (fun w' => w'.cell? (ad.add k) = some (.string y) ∧ w'.cell? ad1 = some (.string x)) (first | go_keep | exact ⟨by rw [hb1.cell (by rw [block_of_add]; exact hblk2)]; exact hc, by rw [hb1.cell hblk1]; exact hcx⟩)
                (first | (go_at_call 19; refine (rBegins_val _ _ _ (by omega) (by omega) hbeg).mono ?_; rintro e w1 ⟨rfl, hb1⟩))
              have hbw1 : Below w.heap.size w w1 := (hbl.drew).trans (hb1.mono hbl.size)
              have HO1 := Lib.hid (own_below (w := wr.drew) HO.out hb1)
              have hcw : w1.cell? (ad.add k) = some (.string y) := by rw [hb1.cell (by rw [block_of_add]; exact hblk2)]; exact hc
              have hsw := hbw1.size
              have hrl : r.length + 2 ≤ 1000 := by simp at htk; omega
              clear hb1 hbl HO HS1 hc hcx
              go_wp2_with (at_builtin; refine wpList_append_own_at _ rfl (.tmp 41) (.tmp 46) 22 rfl w.heap.size 9 i0 _ 1 16 Try.underlying22 HI.out.1 HI.out.2.1 HI.out.2.2.1 HI.out.2.2.2 rfl (by omega) (.slice (some ad1) (r.length + 1) c1) (r.length + 1) (scells (x :: r)) rfl (HO1.out.alloc _) ⟨w1.heap.size, 0, none⟩ 1 1 [.string y] rfl rfl (cell_one_new _ _ _) (by simp [Value.oneCell']) (by unfold maxLen; omega) (by omega) (Nat.le_trans hsw (World.grownBy_alloc w1 _ none).size) ?_; intro v1 wA hoA hgA hnA hatA; have HA := Lib.hid hoA; have HB2 := Lib.hid ((hbw1.alloc hsw _).grown hgA (Nat.le_trans hsw (World.grownBy_alloc w1 _ none).size) (fun i hi => (HO1.out.lt i hi).1)); clear hoA hgA hnA hatA)
              go_roundg (ss.length - (k + 1))
              case rel =>
                refine ⟨k + 1, (x :: r) ++ [y], by omega, rfl, by go_num, by have := listed_more HL.out (by rw [HY.out]; exact fun e => HE.out e.symm) (by rw [HY.out]; exact HB.out); rwa [HY.out] at this, by simp at htk ⊢; omega, ?_, HB2.out⟩
                have := HA.out
                rw [scells_snoc] at this
                simpa using this
              case measure => omega
      · obtain rfl : k = ss.length := by omega
        cases t with
        | nil =>
          have hv := listed_none HS.out HL.out
          have HV := Lib.hid hv
          clear hv
          go_wp2
          go_ret2
          exact ⟨ret_find (by rw [HV.out]; rfl) (by rw [HV.out]), hbl⟩
        | cons x r =>
          obtain ⟨ad1, rfl, hblk1, hc1⟩ := HS1.out 0 (by simp)
          have hcx : wr.cell? ad1 = some (.string x) := hc1
          clear hc1
          have hlen1 : ((r.length : Int) + 1 == 0) = false := by simp; omega
          cases r with
          | nil =>
            have hv := listed_one HS.out HL.out
            have HV := Lib.hid hv
            clear hv
            go_wp2
            go_ret2
            exact ⟨ret_find (by rw [HV.out]; exact (str_bl x).symm) (by rw [HV.out]), hbl⟩
          | cons y r =>
            have hv := listed_many HS.out HL.out
            have HV := Lib.hid hv
            clear hv
            go_wp2
            go_ret2
            exact ⟨ret_find (by rw [HV.out]; rfl) (by rw [HV.out]), hbl⟩
  · have h0 : (M.shortC (bl s) != 0) = true := by simpa using hsh
    have hv := M.findR_short (l := bls ss) hsh
    have HV := Lib.hid hv
    clear hv hsh
    go_enter Try.func13, Try.ntmps13
    go_wp2_with (go_at_call 17; refine (rShort_any _ _ (by omega)).mono ?_; rintro e w' ⟨rfl, rfl⟩)
    go_ret2
    exact ⟨ret_find (by rw [HV.out]; rfl) (by rw [HV.out]), Below.refl _ _⟩
end Go.Proofs.Ytmblabonnioomaa
