/-
  The program's disk beside other things in memory; an act on it (layer 7).
-/
import Derived.Test.YtdgfbpkpfmdjjaaKo
namespace Go.Proofs.Ytdgfbpkpfmdjjaa.Hk
open Go.RowKit Hr Hw Ht
set_option linter.unusedVariables false

/-- the program's disk, as a thing in memory -/
def Dk (b : Nat) (d : Dsk) : List Nat → World → Prop := fun F w => DiskAt w b d F
theorem dk_part (b : Nat) (d : Dsk) : Part (Dk b d) := disk_part b d
/-- nothing -/
def Emp : List Nat → World → Prop := fun F _ => F = []
theorem emp_part : Part Emp := ⟨(fun h k hk => by rw [h] at hk; cases hk), fun h _ => h⟩
/-- a row of strings -/
def Rs (v : Value) (l : List ByteArray) : List Nat → World → Prop := fun F w => F = v.ownBlock.toList ∧ w.ownsRow 0 9 1 v l.length (l.flatMap scells)
theorem rs_part (v : Value) (l : List ByteArray) : Part (Rs v l) := ⟨fun h k hk => by
  obtain ⟨rfl, h⟩ := h
  exact own_lt h (by simpa using hk), fun h hs => by
  obtain ⟨rfl, h⟩ := h
  exact ⟨rfl, ownsRow_same h (fun k hk => hs k (by simpa using hk))⟩⟩
theorem own_zero {w : World} {base : Nat} {e : TypeId} {size n : Nat} {v : Value} {xs : List Value} (h : w.ownsRow base e size v n xs) : w.ownsRow 0 e size v n xs := by
  obtain ⟨h1, h2⟩ := h
  refine ⟨h1, ?_⟩
  rcases h2 with h2 | ⟨g, cap, cur, e, hb, r⟩
  · exact .inl h2
  · exact .inr ⟨g, cap, cur, e, Nat.zero_le _, r⟩
section
variable {w1 w : World} {b : Nat} {d : Dsk} {R : List Nat → World → Prop} (h : Holds w1 (Star (Dk b d) R) w) (hR : Part R)
include h hR
theorem h_write (hf : Fit d) (p t : ByteArray) (he : wt (1, p, t) ≤ 1000000) :
    Calls Try.prog 31 #[.pointer (some ⟨b, 0, none⟩), .string p, .string t] w fun r w' => r = .returned (.int .i64 (doF d (1, p, t)).2) ∧ Holds w1 (Star (Dk b (doF d (1, p, t)).1) R) w' := by
  obtain ⟨A, hA, _, hk⟩ := h.head hR
  refine (write_d w b d A hA hf p t he).mono ?_
  rintro r w' ⟨rfl, F', h1, h2⟩
  exact ⟨rfl, hk (T' := Dk b (doF d (1, p, t)).1) h1 h2⟩
theorem h_rename (hf : Fit d) (p t : ByteArray) (he : wt (2, p, t) ≤ 1000000) :
    Calls Try.prog 30 #[.pointer (some ⟨b, 0, none⟩), .string p, .string t] w fun r w' => r = .returned (.int .i64 (doF d (2, p, t)).2) ∧ Holds w1 (Star (Dk b (doF d (2, p, t)).1) R) w' := by
  obtain ⟨A, hA, _, hk⟩ := h.head hR
  refine (rename_d w b d A hA hf p t he).mono ?_
  rintro r w' ⟨rfl, F', h1, h2⟩
  exact ⟨rfl, hk (T' := Dk b (doF d (2, p, t)).1) h1 h2⟩
theorem h_remove (hf : Fit d) (p x : ByteArray) (he : wt (3, p, x) ≤ 1000000) :
    Calls Try.prog 32 #[.pointer (some ⟨b, 0, none⟩), .string p] w fun r w' => r = .returned (.int .i64 (doF d (3, p, x)).2) ∧ Holds w1 (Star (Dk b (doF d (3, p, x)).1) R) w' := by
  obtain ⟨A, hA, _, hk⟩ := h.head hR
  refine (remove_d w b d A hA hf p x he).mono ?_
  rintro r w' ⟨rfl, F', h1, h2⟩
  exact ⟨rfl, hk (T' := Dk b (doF d (3, p, x)).1) h1 h2⟩
theorem h_sync (hf : Fit d) : Calls Try.prog 24 #[.pointer (some ⟨b, 0, none⟩)] w fun r w' => r = .returned (.int .i64 (syncF d).2) ∧ Holds w1 (Star (Dk b (syncF d).1) R) w' := by
  obtain ⟨A, hA, _, hk⟩ := h.head hR
  refine (sync_d w b d A hA hf).mono ?_
  rintro r w' ⟨rfl, F', h1, h2, _⟩
  exact ⟨rfl, hk (T' := Dk b (syncF d).1) h1 h2⟩
/-- behind a sync a copy can be made -/
theorem h_sync3 (hf : Fit d) (h0 : (syncF d).2 = 0) : Calls Try.prog 24 #[.pointer (some ⟨b, 0, none⟩)] w fun r w' => r = .returned (.int .i64 (syncF d).2) ∧ Holds w1 (Star (fun F w => Dk b (syncF d).1 F w ∧ F.length = 3) R) w' := by
  obtain ⟨A, hA, _, hk⟩ := h.head hR
  refine (sync_d w b d A hA hf).mono ?_
  rintro r w' ⟨rfl, F', h1, h2, h3⟩
  exact ⟨rfl, hk (T' := fun F w => Dk b (syncF d).1 F w ∧ F.length = 3) ⟨h1, h3 h0⟩ h2⟩
theorem h_start : Calls Try.prog 28 #[.pointer (some ⟨b, 0, none⟩)] w fun r w' => r = .returned (.tuple #[]) ∧ Holds w1 (Star (Dk b { d with down := false }) R) w' := by
  obtain ⟨A, hA, _, hk⟩ := h.head hR
  refine (start_d w b d A hA).mono ?_
  rintro r w' ⟨rfl, h1, h2⟩
  exact ⟨rfl, hk (T' := Dk b { d with down := false }) h1 h2⟩
theorem h_arm (at_ keep : Int) (hk0 : 0 ≤ keep) (hk1 : keep < 18446744073709551616) : Calls Try.prog 27 #[.pointer (some ⟨b, 0, none⟩), .agg #[.int .i64 at_, .int .u64 keep]] w fun r w' => r = .returned (.tuple #[]) ∧ Holds w1 (Star (Dk b (armF d at_ keep)) R) w' := by
  obtain ⟨A, hA, _, hk⟩ := h.head hR
  refine (arm_d w b d A hA at_ keep hk0 hk1).mono ?_
  rintro r w' ⟨rfl, h1, h2⟩
  exact ⟨rfl, hk (T' := Dk b (armF d at_ keep)) h1 h2⟩
theorem h_read (p : ByteArray) (hp : p.size ≤ maxLen) : Calls Try.prog 26 #[.pointer (some ⟨b, 0, none⟩), .string p] w
    fun r w' => r = .returned (.tuple #[.string (if d.down then ByteArray.empty else texOf (findF (seenF d.lies d.rows) p)), .int .i64 (if d.down then 8 else if (findF (seenF d.lies d.rows) p).isSome then 0 else 5)]) ∧ Holds w1 (Star (Dk b d) R) w' := by
  obtain ⟨A, hA, _, hk⟩ := h.head hR
  refine (read_d w b d A hA p hp).mono ?_
  rintro r w' ⟨rfl, h1⟩
  exact ⟨rfl, h.below ((dk_part b d).star hR) h1⟩
theorem h_down : Calls Try.prog 21 #[.pointer (some ⟨b, 0, none⟩)] w fun r w' => r = .returned (.bool d.down) ∧ w' = w := by
  obtain ⟨A, hA, _, hk⟩ := h.head hR
  exact down_d w b d A hA
theorem h_waiting : Calls Try.prog 22 #[.pointer (some ⟨b, 0, none⟩)] w fun r w' => r = .returned (.int .i64 d.rows.length) ∧ w' = w := by
  obtain ⟨A, hA, _, hk⟩ := h.head hR
  exact waiting_d w b d A hA
theorem h_taken : Calls Try.prog 23 #[.pointer (some ⟨b, 0, none⟩)] w fun r w' => r = .returned (.int .i64 (if d.down then 0 else (takenF (seenF d.lies d.rows) : Int))) ∧ w' = w := by
  obtain ⟨A, hA, _, hk⟩ := h.head hR
  exact taken_d w b d A hA
theorem h_list (hf : Fit d) (pre : ByteArray) (hq : pre.size ≤ maxLen) : Calls Try.prog 25 #[.pointer (some ⟨b, 0, none⟩), .string pre] w
    fun r w' => ∃ A c, r = .returned (.slice A (listD d pre).length c) ∧ Holds w1 (Star (Rs (.slice A (listD d pre).length c) (listD d pre)) (Star (Dk b d) R)) w' := by
  obtain ⟨A, hA, _, hk⟩ := h.head hR
  refine (list_d w b d A hA hf pre hq).mono ?_
  rintro r w' ⟨⟨A2, c2, rfl, ho⟩, hb⟩
  exact ⟨A2, c2, rfl, h.add ((dk_part b d).star hR) hb (T := Rs (.slice A2 (listD d pre).length c2) (listD d pre)) ⟨rfl, own_zero ho⟩ (fun k hk => (ho.lt k (by simpa using hk)).1)⟩
end
theorem h_new {w1 w : World} {R : List Nat → World → Prop} (h : Holds w1 R w) (hR : Part R) (room : Int) (h0 : 0 ≤ room) (h1 : room ≤ 16777216) : Calls Try.prog 10 #[.int .i64 room] w fun r w' => ∃ b, r = .returned (.tuple #[.pointer (some ⟨b, 0, none⟩), .int .i64 0]) ∧ Holds w1 (Star (Dk b (newD room)) R) w' := by
  refine (new_d w room h0 h1).mono ?_
  rintro r w' ⟨b, rfl, F, h2, h3, h4⟩
  exact ⟨b, rfl, h.add hR h4 h2 h3⟩
theorem h_copy {w1 w : World} {b : Nat} {d : Dsk} {R : List Nat → World → Prop} (h : Holds w1 (Star (fun F w => Dk b d F w ∧ F.length = 3) R) w) (hR : Part R) : Calls Try.prog 29 #[.pointer (some ⟨b, 0, none⟩)] w fun r w' => ∃ b', r = .returned (.pointer (some ⟨b', 0, none⟩)) ∧ Holds w1 (Star (Dk b' d) (Star (Dk b d) R)) w' := by
  obtain ⟨A, hA, _, hk⟩ := h.head hR
  have h9 : Holds w1 (Star (Dk b d) R) w := hk (T' := Dk b d) hA.1 (Turns.refl _ _)
  refine (copy_d w b d A hA.1 hA.2).mono ?_
  rintro r w' ⟨b', rfl, F', h1, h2, h3⟩
  exact ⟨b', rfl, h9.add ((dk_part b d).star hR) h3 h1 h2⟩
theorem holds_start (w : World) : Holds w Emp w := ⟨[], rfl, (fun k hk => by cases hk), Below.refl _ w⟩

/-! ### an act -/
def actF (d : Dsk) (a : Ac) : Dsk := if a.1 = 1 ∨ a.1 = 2 ∨ a.1 = 3 then (doF d (a.1, a.2.1, a.2.2.1)).1 else if a.1 = 4 then (syncF d).1 else if a.1 = 5 then armF d a.2.2.2.1 a.2.2.2.2 else if a.1 = 6 then { d with down := false } else d
def actE (d : Dsk) (a : Ac) : Int := if a.1 = 1 ∨ a.1 = 2 ∨ a.1 = 3 then (doF d (a.1, a.2.1, a.2.2.1)).2 else if a.1 = 4 then (syncF d).2 else if a.1 = 7 then (if d.down then 8 else if (findF (seenF d.lies d.rows) a.2.1).isSome then 0 else 5) else 0
def actS (d : Dsk) (a : Ac) : ByteArray := if a.1 = 7 then (if d.down then ByteArray.empty else texOf (findF (seenF d.lies d.rows) a.2.1)) else ByteArray.empty
def actL (d : Dsk) (a : Ac) : List ByteArray := if a.1 = 8 then listD d a.2.1 else []
structure ActOk (a : Ac) : Prop where
  wt : a.2.1.size + a.2.2.1.size ≤ 100000
  k0 : 0 ≤ a.2.2.2.2
  k1 : a.2.2.2.2 < 18446744073709551616
def acV (a : Ac) : Value := .agg #[.int .i64 a.1, .string a.2.1, .string a.2.2.1, .int .i64 a.2.2.2.1, .int .u64 a.2.2.2.2]
set_option maxHeartbeats 2000000 in
set_option maxRecDepth 100000 in
theorem do_p {w1 w : World} {b : Nat} {d : Dsk} {R : List Nat → World → Prop} (h : Holds w1 (Star (Dk b d) R) w) (hR : Part R) (hf : Fit d) (a : Ac) (ha : ActOk a) :
    Calls Try.prog 12 #[.pointer (some ⟨b, 0, none⟩), acV a] w fun r w' => ∃ A c, r = .returned (.tuple #[.string (actS d a), .slice A (actL d a).length c, .int .i64 (actE d a)]) ∧ Holds w1 (Star (Rs (.slice A (actL d a).length c) (actL d a)) (Star (Dk b (actF d a)) R)) w' := by
  obtain ⟨k, p, t, at_, keep⟩ := a
  have hbe : Below w.heap.size w (w.alloc (.cells #[.int .i64 k, .string p, .string t, .int .i64 at_, .int .u64 keep] 39)) := (Below.refl _ w).alloc (Nat.le_refl _) _
  have h0 := h.below ((dk_part b d).star hR) hbe
  have hz : p.size + t.size ≤ 100000 := ha.wt
  have hp : p.size ≤ maxLen := by unfold maxLen; omega
  have ht : t.size ≤ maxLen := by unfold maxLen; omega
  have HA := Lib.hid ha
  clear h hbe ha hz
  unfold acV
  simp only
  have none_ : ∀ (w' : World) (d' : Dsk), Holds w1 (Star (Dk b d') R) w' → Holds w1 (Star (Rs (.slice none 0 0) []) (Star (Dk b d') R)) w' := fun w' d' h9 => h9.add ((dk_part b d').star hR) (Below.refl _ _) (T := Rs (.slice none 0 0) []) ⟨rfl, own_none _ _⟩ (fun k hk => by cases hk)
  have HN := Lib.hid none_
  clear none_
  by_cases h1 : k = 1
  · subst h1
    have HC := Lib.hid (h_write h0 hR hf p t (show p.size + t.size ≤ 1000000 by have := HA.out.wt; simp only at this; omega))
    have HE := Lib.hid (show actF d (1, p, t, at_, keep) = (doF d (1, p, t)).1 ∧ actE d (1, p, t, at_, keep) = (doF d (1, p, t)).2 ∧ actS d (1, p, t, at_, keep) = ByteArray.empty ∧ actL d (1, p, t, at_, keep) = [] from ⟨by simp [actF], by simp [actE], by simp [actS], by simp [actL]⟩)
    rw [HE.out.1, HE.out.2.1, HE.out.2.2.1, HE.out.2.2.2]
    go_enter Try.func12, Try.ntmps12
    go_wp2_with fail
    refine HC.out.mono ?_
    rintro r w2 ⟨rfl, h2⟩
    go_wp2
    go_ret3
    exact ⟨none, 0, rfl, HN.out _ _ h2⟩
  by_cases h2 : k = 2
  · subst h2
    have HC := Lib.hid (h_rename h0 hR hf p t (show p.size + t.size ≤ 1000000 by have := HA.out.wt; simp only at this; omega))
    have HE := Lib.hid (show actF d (2, p, t, at_, keep) = (doF d (2, p, t)).1 ∧ actE d (2, p, t, at_, keep) = (doF d (2, p, t)).2 ∧ actS d (2, p, t, at_, keep) = ByteArray.empty ∧ actL d (2, p, t, at_, keep) = [] from ⟨by simp [actF], by simp [actE], by simp [actS], by simp [actL]⟩)
    rw [HE.out.1, HE.out.2.1, HE.out.2.2.1, HE.out.2.2.2]
    go_enter Try.func12, Try.ntmps12
    go_wp2_with fail
    refine HC.out.mono ?_
    rintro r w2 ⟨rfl, h2⟩
    go_wp2
    go_ret3
    exact ⟨none, 0, rfl, HN.out _ _ h2⟩
  by_cases h3 : k = 3
  · subst h3
    have HC := Lib.hid (h_remove h0 hR hf p t (show p.size + t.size ≤ 1000000 by have := HA.out.wt; simp only at this; omega))
    have HE := Lib.hid (show actF d (3, p, t, at_, keep) = (doF d (3, p, t)).1 ∧ actE d (3, p, t, at_, keep) = (doF d (3, p, t)).2 ∧ actS d (3, p, t, at_, keep) = ByteArray.empty ∧ actL d (3, p, t, at_, keep) = [] from ⟨by simp [actF], by simp [actE], by simp [actS], by simp [actL]⟩)
    rw [HE.out.1, HE.out.2.1, HE.out.2.2.1, HE.out.2.2.2]
    go_enter Try.func12, Try.ntmps12
    go_wp2_with fail
    refine HC.out.mono ?_
    rintro r w2 ⟨rfl, h2⟩
    go_wp2
    go_ret3
    exact ⟨none, 0, rfl, HN.out _ _ h2⟩
  by_cases h4 : k = 4
  · subst h4
    have HC := Lib.hid (h_sync h0 hR hf)
    have HE := Lib.hid (show actF d (4, p, t, at_, keep) = (syncF d).1 ∧ actE d (4, p, t, at_, keep) = (syncF d).2 ∧ actS d (4, p, t, at_, keep) = ByteArray.empty ∧ actL d (4, p, t, at_, keep) = [] from ⟨by simp [actF], by simp [actE], by simp [actS], by simp [actL]⟩)
    rw [HE.out.1, HE.out.2.1, HE.out.2.2.1, HE.out.2.2.2]
    go_enter Try.func12, Try.ntmps12
    go_wp2_with fail
    refine HC.out.mono ?_
    rintro r w2 ⟨rfl, h2⟩
    go_wp2
    go_ret3
    exact ⟨none, 0, rfl, HN.out _ _ h2⟩
  by_cases h5 : k = 5
  · subst h5
    have HC := Lib.hid (h_arm h0 hR at_ keep HA.out.k0 HA.out.k1)
    have HE := Lib.hid (show actF d (5, p, t, at_, keep) = armF d at_ keep ∧ actE d (5, p, t, at_, keep) = 0 ∧ actS d (5, p, t, at_, keep) = ByteArray.empty ∧ actL d (5, p, t, at_, keep) = [] from ⟨by simp [actF], by simp [actE], by simp [actS], by simp [actL]⟩)
    rw [HE.out.1, HE.out.2.1, HE.out.2.2.1, HE.out.2.2.2]
    go_enter Try.func12, Try.ntmps12
    go_wp2_with fail
    refine HC.out.mono ?_
    rintro r w2 ⟨rfl, h2⟩
    go_wp2
    go_ret3
    exact ⟨none, 0, rfl, HN.out _ _ h2⟩
  by_cases h6 : k = 6
  · subst h6
    have HC := Lib.hid (h_start h0 hR)
    have HE := Lib.hid (show actF d (6, p, t, at_, keep) = { d with down := false } ∧ actE d (6, p, t, at_, keep) = 0 ∧ actS d (6, p, t, at_, keep) = ByteArray.empty ∧ actL d (6, p, t, at_, keep) = [] from ⟨by simp [actF], by simp [actE], by simp [actS], by simp [actL]⟩)
    rw [HE.out.1, HE.out.2.1, HE.out.2.2.1, HE.out.2.2.2]
    go_enter Try.func12, Try.ntmps12
    go_wp2_with fail
    refine HC.out.mono ?_
    rintro r w2 ⟨rfl, h2⟩
    go_wp2
    go_ret3
    exact ⟨none, 0, rfl, HN.out _ _ h2⟩
  by_cases h7 : k = 7
  · subst h7
    have HC := Lib.hid (h_read h0 hR p hp)
    have HE := Lib.hid (show actF d (7, p, t, at_, keep) = d ∧ actE d (7, p, t, at_, keep) = (if d.down then 8 else if (findF (seenF d.lies d.rows) p).isSome then 0 else 5) ∧ actS d (7, p, t, at_, keep) = (if d.down then ByteArray.empty else texOf (findF (seenF d.lies d.rows) p)) ∧ actL d (7, p, t, at_, keep) = [] from ⟨by simp [actF], by simp [actE], by simp [actS], by simp [actL]⟩)
    rw [HE.out.1, HE.out.2.1, HE.out.2.2.1, HE.out.2.2.2]
    generalize (if d.down then ByteArray.empty else texOf (findF (seenF d.lies d.rows) p)) = X at *
    generalize (if d.down then 8 else if (findF (seenF d.lies d.rows) p).isSome then 0 else 5 : Int) = Y at *
    go_enter Try.func12, Try.ntmps12
    go_wp2_with fail
    refine HC.out.mono ?_
    rintro r w2 ⟨rfl, h2⟩
    go_wp2
    go_ret3
    exact ⟨none, 0, rfl, HN.out _ _ h2⟩
  by_cases h8 : k = 8
  · subst h8
    have HC := Lib.hid (h_list h0 hR hf p hp)
    have HE := Lib.hid (show actF d (8, p, t, at_, keep) = d ∧ actE d (8, p, t, at_, keep) = 0 ∧ actS d (8, p, t, at_, keep) = ByteArray.empty ∧ actL d (8, p, t, at_, keep) = listD d p from ⟨by simp [actF], by simp [actE], by simp [actS], by simp [actL]⟩)
    rw [HE.out.1, HE.out.2.1, HE.out.2.2.1, HE.out.2.2.2]
    go_enter Try.func12, Try.ntmps12
    go_wp2_with fail
    refine HC.out.mono ?_
    rintro r w2 ⟨A2, c2, rfl, h2⟩
    go_wp2
    go_ret3
    exact ⟨A2, c2, rfl, h2⟩
  have HE := Lib.hid (show actF d (k, p, t, at_, keep) = d ∧ actE d (k, p, t, at_, keep) = 0 ∧ actS d (k, p, t, at_, keep) = ByteArray.empty ∧ actL d (k, p, t, at_, keep) = [] from ⟨by simp [actF, h1, h2, h3, h4, h5, h6], by simp [actE, h1, h2, h3, h4, h7], by simp [actS, h7], by simp [actL, h8]⟩)
  rw [HE.out.1, HE.out.2.1, HE.out.2.2.1, HE.out.2.2.2]
  have H0 := Lib.hid h0
  clear h0
  go_enter Try.func12, Try.ntmps12
  go_wp2
  go_ret3
  exact ⟨none, 0, rfl, HN.out _ _ H0.out⟩
end Go.Proofs.Ytdgfbpkpfmdjjaa.Hk
