/-
  The program's disk against the document's: each call (layer 7).
-/
import Derived.Test.YtdgfbpkpfmdjjaaKm
namespace Go.Proofs.Ytdgfbpkpfmdjjaa.Hk
open Go.RowKit Hr Hw Ht
set_option linter.unusedVariables false

theorem eff_rel {d : Dsk} {k : Int} (hk : d.left ≠ 0 → k = d.keep) (hk0 : 0 ≤ k) (hk1 : k < 18446744073709551616) (h0 : 0 ≤ d.left) (e : Ef) (tk : Int) (hl : (doneF (seenF d.lies d.rows) e).length ≤ 4096)
    (ht : badB e = false → lackB (seenF d.lies d.rows) e = false → tk = takenF (doneF (seenF d.lies d.rows) e)) :
    ∃ k', effR (rawOf d k) (badB e) (lackB (seenF d.lies d.rows) e) e tk = (rawOf (doF d e).1 k', (doF d e).2) ∧ ((doF d e).1.left ≠ 0 → k' = (doF d e).1.keep) ∧ 0 ≤ k' ∧ k' < 18446744073709551616 := by
  unfold effR doF
  by_cases hd : d.down = true
  · rw [if_pos hd, if_pos (show (rawOf d k).down = true from hd)]
    exact ⟨k, rfl, hk, hk0, hk1⟩
  · rw [if_neg hd, if_neg (show ¬ (rawOf d k).down = true from hd)]
    by_cases hb : badB e = true
    · rw [if_pos hb, if_pos hb]
      exact ⟨k, rfl, hk, hk0, hk1⟩
    · rw [if_neg hb, if_neg hb]
      by_cases hla : lackB (seenF d.lies d.rows) e = true
      · rw [if_pos hla, if_pos hla]
        exact ⟨k, rfl, hk, hk0, hk1⟩
      · rw [if_neg hla, if_neg hla]
        have htk := ht (by simpa using hb) (by simpa using hla)
        have hfu : fullB (seenF d.lies d.rows) d.room e = true ↔ (decide (e.1 ≠ 3) = true ∧ (rawOf d k).room < tk) := by
          unfold fullB
          rw [htk]
          simp only [Bool.and_eq_true, Bool.or_eq_true, decide_eq_true_eq, rawOf]
          constructor
          · rintro ⟨h1, h2 | h2⟩
            · omega
            · exact ⟨h1, h2⟩
          · rintro ⟨h1, h2⟩
            exact ⟨h1, .inr h2⟩
        by_cases hf : fullB (seenF d.lies d.rows) d.room e = true
        · rw [if_pos hf, if_pos (hfu.1 hf)]
          exact ⟨k, rfl, hk, hk0, hk1⟩
        · rw [if_neg hf, if_neg (fun h => hf (hfu.2 h)), wait_raw d k e tk htk]
          exact cut_rel (d := { d with rows := d.rows ++ [e] }) hk hk0 hk1 h0
theorem small_of {d : Dsk} {k : Int} (hr : Rise d.lies) (hf : Fit d) : Small (rawOf d k) where
  seen := by have := seenF_len d.rows d.lies; have := hf.len; simp only [rawOf]; omega
  tak0 := by simp only [rawOf]; omega
  tak1 := by have := taken_seen d.rows hr; have := hf.tak; simp only [rawOf]; omega
  wait := by have := hf.len; simp only [rawOf]; omega
  few := by simp only [rawOf, List.length_take]; omega
theorem fit_done {d : Dsk} (hf : Fit d) (e : Ef) : (doneF (seenF d.lies d.rows) e).length ≤ 4096 := by
  have := doneF_len (seenF d.lies d.rows) e
  have := seenF_len d.rows d.lies
  have := hf.len
  omega
theorem fit_wait {d : Dsk} {k : Int} (hr : Rise d.lies) (hf : Fit d) (e : Ef) (he : wt e ≤ 1000000) (hk0 : 0 ≤ k) (hk1 : k < 18446744073709551616) : FitR (rawOf { d with rows := d.rows ++ [e] } k) := by
  have h1 := hf.len
  have h2 := hf.tak
  refine fitR_of hr ?_ ?_ hf.l0 hf.l1 hk0 hk1
  · simp only [List.length_append, List.length_singleton]; omega
  · simp only [wts_append, wts_one]; omega
theorem fitR_tk {s : Raw} {e : Ef} {tk tk' : Int} (h : FitR (waitS s e tk)) : FitR (waitS s e tk') := ⟨h.len, h.few, h.k0, h.k1, h.l0, h.l1, h.tak, h.eok⟩
theorem fit_waitS {d : Dsk} {k : Int} (hr : Rise d.lies) (hf : Fit d) (e : Ef) (he : wt e ≤ 1000000) (hk0 : 0 ≤ k) (hk1 : k < 18446744073709551616) (tk : Int) : FitR (waitS (rawOf d k) e tk) := by
  have h := fit_wait hr hf e he hk0 hk1
  rw [← wait_raw d k e _ rfl] at h
  exact fitR_tk h
theorem small_size {e : Ef} (he : wt e ≤ 1000000) : e.2.1.size ≤ maxLen ∧ e.2.2.size ≤ maxLen ∧ e.2.1.size ≤ 1000000000 ∧ e.2.2.size ≤ 1000000000 := by
  unfold wt at he
  unfold maxLen
  omega
theorem takes_fit {d : Dsk} (hr : Rise d.lies) (hf : Fit d) (p : ByteArray) : takes (seenF d.lies d.rows) p ≤ 1000000000 := by
  have := takes_le (rise_seen d.rows hr) p
  have := taken_seen d.rows hr
  have := hf.tak
  omega
section
variable (w : World) (b : Nat) (d : Dsk) (F : List Nat) (h : DiskAt w b d F)
include h
theorem write_d (hf : Fit d) (p t : ByteArray) (he : wt (1, p, t) ≤ 1000000) :
    Calls Try.prog 31 #[.pointer (some ⟨b, 0, none⟩), .string p, .string t] w fun r w' => r = .returned (.int .i64 (doF d (1, p, t)).2) ∧ ∃ F', DiskAt w' b (doF d (1, p, t)).1 F' ∧ Turns F F' w w' := by
  have hr := h.rise
  obtain ⟨k, h, hk, hk0, hk1⟩ := h
  obtain ⟨z1, z2, z3, z4⟩ := small_size he
  obtain ⟨k', e1, e2, e3, e4⟩ := eff_rel hk hk0 hk1 hf.l0 (1, p, t) (takenF (seenF d.lies d.rows) - takes (seenF d.lies d.rows) p + p.size + t.size) (fit_done hf _) (fun _ _ => tk_write (rise_seen d.rows hr) p t)
  have hb : badB (1, p, t) = !pathB p := by simp [badB]
  have hla : lackB (seenF d.lies d.rows) (1, p, t) = false := by simp [lackB]
  rw [hb, hla] at e1
  refine (write_raw w b (rawOf d k) F h p t _ z1 z2 z3 z4 (takes_fit hr hf p) rfl (small_of hr hf) (fit_waitS hr hf _ he hk0 hk1 _)).mono ?_
  rintro r w' ⟨rfl, F', h1, h2⟩
  exact ⟨congrArg (fun x : Raw × Int => Ending.returned (.int .i64 x.2)) e1, F', ⟨k', Eq.mp (congrArg (fun x : Raw × Int => RawAt w' b x.1 F') e1) h1, e2, e3, e4⟩, h2⟩
theorem rename_d (hf : Fit d) (p t : ByteArray) (he : wt (2, p, t) ≤ 1000000) :
    Calls Try.prog 30 #[.pointer (some ⟨b, 0, none⟩), .string p, .string t] w fun r w' => r = .returned (.int .i64 (doF d (2, p, t)).2) ∧ ∃ F', DiskAt w' b (doF d (2, p, t)).1 F' ∧ Turns F F' w w' := by
  have hr := h.rise
  obtain ⟨k, h, hk, hk0, hk1⟩ := h
  obtain ⟨z1, z2, z3, z4⟩ := small_size he
  obtain ⟨k', e1, e2, e3, e4⟩ := eff_rel hk hk0 hk1 hf.l0 (2, p, t) (takenF (seenF d.lies d.rows) + (if p = t then 0 else (t.size : Int) - p.size - takes (seenF d.lies d.rows) t)) (fit_done hf _) (fun _ hla => by
    simp [lackB] at hla
    cases hu : findF (seenF d.lies d.rows) p with
    | none => rw [hu] at hla; simp at hla
    | some u => exact tk_rename (rise_seen d.rows hr) p t u hu)
  have hb : badB (2, p, t) = !pathB t := by simp [badB]
  have hla : lackB (seenF d.lies d.rows) (2, p, t) = !(findF (seenF d.lies d.rows) p).isSome := by simp [lackB]
  rw [hb, hla] at e1
  refine (rename_raw w b (rawOf d k) F h p t _ z1 z2 z3 z4 (takes_fit hr hf t) rfl (small_of hr hf) (fit_waitS hr hf _ he hk0 hk1 _)).mono ?_
  rintro r w' ⟨rfl, F', h1, h2⟩
  exact ⟨congrArg (fun x : Raw × Int => Ending.returned (.int .i64 x.2)) e1, F', ⟨k', Eq.mp (congrArg (fun x : Raw × Int => RawAt w' b x.1 F') e1) h1, e2, e3, e4⟩, h2⟩
theorem remove_d (hf : Fit d) (p x : ByteArray) (he : wt (3, p, x) ≤ 1000000) :
    Calls Try.prog 32 #[.pointer (some ⟨b, 0, none⟩), .string p] w fun r w' => r = .returned (.int .i64 (doF d (3, p, x)).2) ∧ ∃ F', DiskAt w' b (doF d (3, p, x)).1 F' ∧ Turns F F' w w' := by
  have hr := h.rise
  obtain ⟨k, h, hk, hk0, hk1⟩ := h
  obtain ⟨z1, z2, z3, z4⟩ := small_size he
  obtain ⟨k', e1, e2, e3, e4⟩ := eff_rel hk hk0 hk1 hf.l0 (3, p, x) (takenF (seenF d.lies d.rows) - takes (seenF d.lies d.rows) p) (fit_done hf _) (fun _ _ => tk_remove (rise_seen d.rows hr) p x)
  have hb : badB (3, p, x) = false := by simp [badB]
  have hla : lackB (seenF d.lies d.rows) (3, p, x) = !(findF (seenF d.lies d.rows) p).isSome := by simp [lackB]
  rw [hb, hla] at e1
  refine (remove_raw w b (rawOf d k) F h p x _ z1 z2 (takes_fit hr hf p) rfl (small_of hr hf) (fit_waitS hr hf _ he hk0 hk1 _)).mono ?_
  rintro r w' ⟨rfl, F', h1, h2⟩
  exact ⟨congrArg (fun x : Raw × Int => Ending.returned (.int .i64 x.2)) e1, F', ⟨k', Eq.mp (congrArg (fun x : Raw × Int => RawAt w' b x.1 F') e1) h1, e2, e3, e4⟩, h2⟩
theorem sync_d (hf : Fit d) :
    Calls Try.prog 24 #[.pointer (some ⟨b, 0, none⟩)] w fun r w' => r = .returned (.int .i64 (syncF d).2) ∧ ∃ F', DiskAt w' b (syncF d).1 F' ∧ Turns F F' w w' ∧ ((syncF d).2 = 0 → F'.length = 3) := by
  have hr := h.rise
  obtain ⟨k, h, hk, hk0, hk1⟩ := h
  obtain ⟨k', e1, e2, e3, e4⟩ := sync_rel hk hk0 hk1 hf.l0
  refine (sync_raw w b (rawOf d k) F h (fitR_of hr (by have := hf.len; omega) (by have := hf.tak; omega) hf.l0 hf.l1 hk0 hk1)).mono ?_
  rintro r w' ⟨rfl, F', h1, h2, h3⟩
  exact ⟨congrArg (fun x : Raw × Int => Ending.returned (.int .i64 x.2)) e1, F', ⟨k', Eq.mp (congrArg (fun x : Raw × Int => RawAt w' b x.1 F') e1) h1, e2, e3, e4⟩, h2, fun h9 => h3 (by rw [e1]; exact h9)⟩
theorem start_d : Calls Try.prog 28 #[.pointer (some ⟨b, 0, none⟩)] w fun r w' => r = .returned (.tuple #[]) ∧ DiskAt w' b { d with down := false } F ∧ Turns F F w w' := by
  obtain ⟨k, h, hk⟩ := h
  refine (start_any w b (rawOf d k) F h).mono ?_
  rintro r w' ⟨rfl, h1, h2⟩
  exact ⟨rfl, ⟨k, h1, hk⟩, h2⟩
theorem arm_d (at_ keep : Int) (hk0 : 0 ≤ keep) (hk1 : keep < 18446744073709551616) : Calls Try.prog 27 #[.pointer (some ⟨b, 0, none⟩), .agg #[.int .i64 at_, .int .u64 keep]] w fun r w' => r = .returned (.tuple #[]) ∧ DiskAt w' b (armF d at_ keep) F ∧ Turns F F w w' := by
  obtain ⟨k, h, hk⟩ := h
  refine (arm_p w b (rawOf d k) F h at_ keep).mono ?_
  rintro r w' ⟨rfl, h1, h2⟩
  refine ⟨rfl, ⟨if at_ < 1 then 0 else keep, h1, fun h9 => ?_, ?_⟩, h2⟩
  · by_cases ha : at_ < 1
    · simp [armF, ha] at h9
    · rw [if_neg ha]; rfl
  · split <;> omega
theorem read_d (p : ByteArray) (hp : p.size ≤ maxLen) : Calls Try.prog 26 #[.pointer (some ⟨b, 0, none⟩), .string p] w
    fun r w' => r = .returned (.tuple #[.string (if d.down then ByteArray.empty else texOf (findF (seenF d.lies d.rows) p)), .int .i64 (if d.down then 8 else if (findF (seenF d.lies d.rows) p).isSome then 0 else 5)]) ∧ Below w.heap.size w w' := by
  obtain ⟨k, h, hk⟩ := h
  exact read_any w b (rawOf d k) F h p hp
theorem down_d : Calls Try.prog 21 #[.pointer (some ⟨b, 0, none⟩)] w fun r w' => r = .returned (.bool d.down) ∧ w' = w := by
  obtain ⟨k, h, hk⟩ := h
  exact down_any w b (rawOf d k) F h
theorem waiting_d : Calls Try.prog 22 #[.pointer (some ⟨b, 0, none⟩)] w fun r w' => r = .returned (.int .i64 d.rows.length) ∧ w' = w := by
  obtain ⟨k, h, hk⟩ := h
  exact waiting_any w b (rawOf d k) F h
theorem taken_d : Calls Try.prog 23 #[.pointer (some ⟨b, 0, none⟩)] w fun r w' => r = .returned (.int .i64 (if d.down then 0 else (takenF (seenF d.lies d.rows) : Int))) ∧ w' = w := by
  obtain ⟨k, h, hk⟩ := h
  exact takenp_any w b (rawOf d k) F h
/-- what List answers -/
def listD (d : Dsk) (pre : ByteArray) : List ByteArray := if d.down = true then [] else listF (seenF d.lies d.rows) pre
omit h in
theorem own_none (w : World) (base : Nat) : w.ownsRow base 9 1 (.slice none 0 0) 0 [] := ⟨by simp, .inl ⟨rfl, rfl⟩⟩
theorem list_d (hf : Fit d) (pre : ByteArray) (hq : pre.size ≤ maxLen) : Calls Try.prog 25 #[.pointer (some ⟨b, 0, none⟩), .string pre] w
    fun r w' => (∃ A c, r = .returned (.slice A (listD d pre).length c) ∧ w'.ownsRow w.heap.size 9 1 (.slice A (listD d pre).length c) (listD d pre).length ((listD d pre).flatMap scells)) ∧ Below w.heap.size w w' := by
  obtain ⟨k, h, hk⟩ := h
  unfold listD
  cases hd : d.down
  · exact list_up w b (rawOf d k) F h hd pre hq (by have := seenF_len d.rows d.lies; have := hf.len; simp only [rawOf]; omega)
  · refine (list_down w b (rawOf d k) F h hd pre).mono ?_
    rintro r w' ⟨rfl, rfl⟩
    exact ⟨⟨none, 0, rfl, own_none _ _⟩, Below.refl _ _⟩
theorem copy_d (hl : F.length = 3) : Calls Try.prog 29 #[.pointer (some ⟨b, 0, none⟩)] w fun r w' => ∃ b', r = .returned (.pointer (some ⟨b', 0, none⟩)) ∧ ∃ F', DiskAt w' b' d F' ∧ (∀ k, k ∈ F' → w.heap.size ≤ k) ∧ Below w.heap.size w w' := by
  obtain ⟨k, h, hk⟩ := h
  refine (copy_raw w b (rawOf d k) F h hl).mono ?_
  rintro r w' ⟨b', rfl, F', h1, h2⟩
  exact ⟨b', rfl, F', ⟨k, h1, hk⟩, h2⟩
end
def newD (room : Int) : Dsk := ⟨room, [], [], false, 0, 0, 0⟩
theorem new_d (w : World) (room : Int) (h0 : 0 ≤ room) (h1 : room ≤ 16777216) : Calls Try.prog 10 #[.int .i64 room] w fun r w' => ∃ b, r = .returned (.tuple #[.pointer (some ⟨b, 0, none⟩), .int .i64 0]) ∧ ∃ F, DiskAt w' b (newD room) F ∧ (∀ k, k ∈ F → w.heap.size ≤ k) ∧ Below w.heap.size w w' := by
  refine (new_ok w room h0 h1).mono ?_
  rintro r w' ⟨b', rfl, F', h1, h2⟩
  exact ⟨b', rfl, F', ⟨0, h1, fun h9 => absurd rfl h9, by omega, by omega⟩, h2⟩

/-! ### what stays small -/
theorem callF_small (d : Dsk) (hr : Rise d.lies) : (callF d).1.lies.length + (callF d).1.rows.length ≤ d.lies.length + d.rows.length ∧ takenF (callF d).1.lies + wts (callF d).1.rows ≤ takenF d.lies + wts d.rows ∧ (callF d).1.room = d.room ∧ Rise (callF d).1.lies := by
  unfold callF
  split
  · exact ⟨Nat.le_refl _, Nat.le_refl _, rfl, hr⟩
  · split
    · exact ⟨Nat.le_refl _, Nat.le_refl _, rfl, hr⟩
    · refine ⟨?_, ?_, rfl, keepF_rise hr _ _ _⟩
      · have := keepF_len d.lies d.rows d.keep (min d.rows.length 64)
        simp only [List.length_nil]
        omega
      · have h1 := keepF_taken hr d.rows d.keep (min d.rows.length 64) (Nat.min_le_left _ _)
        have h2 := wts_take d.rows (min d.rows.length 64)
        have h3 : wts [] = 0 := rfl
        simp only [h3]
        omega
theorem callF_left (d : Dsk) (h0 : 0 ≤ d.left) : 0 ≤ (callF d).1.left ∧ (callF d).1.left ≤ d.left ∧ (callF d).1.keep = d.keep := by
  unfold callF
  split
  · exact ⟨h0, Int.le_refl _, rfl⟩
  · split
    · refine ⟨?_, ?_, rfl⟩ <;> (simp only; omega)
    · refine ⟨?_, ?_, rfl⟩ <;> (simp only; omega)
theorem doF_cases (d : Dsk) (e : Ef) : (doF d e).1 = d ∨ (doF d e).1 = (callF { d with rows := d.rows ++ [e] }).1 := by
  unfold doF
  split
  · exact .inl rfl
  · split
    · exact .inl rfl
    · split
      · exact .inl rfl
      · split
        · exact .inl rfl
        · exact .inr rfl
theorem doF_small (d : Dsk) (e : Ef) (hr : Rise d.lies) (h0 : 0 ≤ d.left) : (doF d e).1.lies.length + (doF d e).1.rows.length ≤ d.lies.length + d.rows.length + 1 ∧ takenF (doF d e).1.lies + wts (doF d e).1.rows ≤ takenF d.lies + wts d.rows + wt e ∧ (doF d e).1.room = d.room ∧ 0 ≤ (doF d e).1.left ∧ (doF d e).1.left ≤ d.left ∧ (doF d e).1.keep = d.keep := by
  rcases doF_cases d e with h | h
  · rw [h]; refine ⟨?_, ?_, rfl, h0, Int.le_refl _, rfl⟩ <;> omega
  · rw [h]
    have h1 := callF_small { d with rows := d.rows ++ [e] } hr
    have h2 := callF_left { d with rows := d.rows ++ [e] } h0
    simp only [List.length_append, List.length_singleton, wts_append, wts_one] at h1 h2
    refine ⟨by omega, by omega, h1.2.2.1, h2.1, h2.2.1, h2.2.2⟩
theorem syncF_small (d : Dsk) (hr : Rise d.lies) (h0 : 0 ≤ d.left) : (syncF d).1.lies.length + (syncF d).1.rows.length ≤ d.lies.length + d.rows.length ∧ takenF (syncF d).1.lies + wts (syncF d).1.rows ≤ takenF d.lies + wts d.rows ∧ (syncF d).1.room = d.room ∧ 0 ≤ (syncF d).1.left ∧ (syncF d).1.left ≤ d.left ∧ (syncF d).1.keep = d.keep := by
  have h1 := callF_small d hr
  have h2 := callF_left d h0
  unfold syncF
  split
  · exact ⟨Nat.le_refl _, Nat.le_refl _, rfl, h0, Int.le_refl _, rfl⟩
  · split
    · exact ⟨h1.1, h1.2.1, h1.2.2.1, h2⟩
    · have h3 := seenF_len d.rows d.lies
      have h4 := taken_seen d.rows hr
      have h5 : wts [] = 0 := rfl
      refine ⟨?_, ?_, h1.2.2.1, h2⟩
      · simp only [List.length_nil]; omega
      · simp only [h5]; omega
end Go.Proofs.Ytdgfbpkpfmdjjaa.Hk
