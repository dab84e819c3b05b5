/-
  Layer 9: the program follows steps; its Apply.
-/
import Derived.Test.YtcgaofndckiddaaEf
namespace Go.Proofs.Ytcgaofndckiddaa.He
open Go.RowKit Hg
set_option linter.unusedVariables false

section
variable {w wr w2 w4 w5 : World} {o : Obj} {v : Value} {l : List UInt8}
theorem fol_below (h : Below w.heap.size w wr) (h2 : Below wr.heap.size wr w2) (h4 : Below (w2.alloc o).heap.size (w2.alloc o) w4) : Below w.heap.size w w4 := by
  have h3 := (h.trans (h2.mono h.size)).alloc (Nat.le_trans h.size h2.size) o
  exact h3.trans (h4.mono h3.size)
theorem fol_own (ho : Own wr w.heap.size v l) (h : Below w.heap.size w wr) (h2 : Below wr.heap.size wr w2) (h4 : Below (w2.alloc o).heap.size (w2.alloc o) w4) :
    Own w4 w.heap.size v l ∧ w.heap.size ≤ w4.heap.size ∧ v.ownBlock ≠ some w2.heap.size ∧ w4.heap[w2.heap.size]? = some o ∧ Below w.heap.size w w4 := by
  refine ⟨((ho.below h2).alloc o).below h4, (fol_below h h2 h4).size, fun e => ?_, (h4.block _ (by simp)).trans (heap_alloc_new w2 o), fol_below h h2 h4⟩
  have := (World.ownsRow.lt ho _ e).2
  have := h2.size
  omega
theorem fol_grown (h : Own w4 w.heap.size v l ∧ w.heap.size ≤ w4.heap.size ∧ v.ownBlock ≠ some w2.heap.size ∧ w4.heap[w2.heap.size]? = some o ∧ Below w.heap.size w w4) (hg : w4.grownBy w5 v.ownBlock) :
    w5.heap[w2.heap.size]? = some o ∧ Below w.heap.size w w5 :=
  ⟨(hg.block _ (Array.getElem?_eq_some_iff.1 h.2.2.2.1).1 (fun e => h.2.2.1 e.symm)).trans h.2.2.2.1, h.2.2.2.2.grown hg h.2.1 (fun k hk => (World.ownsRow.lt h.1 k hk).1)⟩
end

set_option maxHeartbeats 4000000 in
set_option maxRecDepth 100000 in
theorem follow_any (b s : ByteArray) (M : Nat) (w : World) (hb : b.size ≤ 2000) (hs : s.size ≤ 2000) (hM : M < 4294967296) :
    Calls Try.prog 11 #[.string b, .string s, .int .i64 M] w fun e w' => e = .returned (ans (Df.goF (bl b) M [] (bl s))) ∧ Below w.heap.size w w' := by
  obtain ⟨bs, hbs⟩ : ∃ bs : Nat, b.size + s.size = bs := ⟨_, rfl⟩
  have wbs : IntKind.i64.wrap ((b.size : Int) + s.size) = bs := (IntWalk.i64_in _ (by omega)).trans (by omega)
  have hbs4 : bs ≤ 4000 := by omega
  clear hbs
  go_enter Try.func11, Try.ntmps11
  go_upto_region 1 with fail
  go_cut [8] (fun s8 wx => Own wx w.heap.size s8 [] ∧ Below w.heap.size w wx)
  case first =>
    by_cases hlt : bs < M
    · have hif1 : (bs : Int) < M := by omega
      have hif2 : ¬ (M : Int) < bs := by omega
      obtain ⟨W0, hmk, hown, hbl⟩ := make_any w bs (by omega)
      clear hlt
      go_wp2
      go_meet
      exact ⟨hown, hbl⟩
    · have hif1 : ¬ (bs : Int) < M := by omega
      obtain ⟨W0, hmk, hown, hbl⟩ := make_any w M (by omega)
      go_wp2
      go_meet
      exact ⟨hown, hbl⟩
  case rest =>
  obtain ⟨hown, hbl⟩ := hcut
  have HW0 := Lib.hid (And.intro hown hbl)
  clear hown hbl wbs hbs4
  obtain ⟨A0, c0, rfl⟩ := HW0.out.1.slice
  go_wp2_with fail
  go_loopg [1, 8] s.size (fun gk r v wr => ∃ (R : ByteArray) (t : List UInt8), gk = R.size ∧ r = .string R ∧ Fol w wr b s M R v t)
  case atStart => exact ⟨s, [], rfl, rfl, ⟨HW0.out.1, HW0.out.2, Nat.zero_le _, by simp, rfl⟩⟩
  case round =>
    obtain ⟨R, t, rfl, rfl, hf⟩ := hrel
    obtain ⟨A, cp, rfl⟩ := hf.own.slice
    have hsm := hf.small
    have hrm := hf.room
    have HF := Lib.hid hf
    clear hf
    by_cases h0 : 0 < R.size
    · have h0i : (0 : Int) < R.size := by omega
      rcases step_cases R b M t.length h0 (by omega) hb with ⟨e, he0, hc, hne, hrd⟩ | ⟨c, p, n, z, told, X, ok, hz, hz5, hX, hrd, hpc, hk⟩
      · have HC := Lib.hid (Df.go_bad (b := bl b) (M := M) (t := t) (bl_ne R h0) hc hne)
        have HRD := Lib.hid hrd
        clear hc hne hrd h0
        go_wp2_with (go_at_call 16; refine (HRD.out _).mono ?_; rintro r w2 ⟨rfl, hb2⟩)
        go_ret2
        exact ⟨ans_no (HF.out.goes.trans HC.out), (HF.out.below.trans (hb2.mono HF.out.below.size)).alloc (Nat.le_trans HF.out.below.size hb2.size) _⟩
      · have HRD := Lib.hid hrd
        have HPC := Lib.hid hpc
        clear hrd hpc h0
        rcases hk with ⟨rfl, hc⟩ | ⟨rfl, hm, hc⟩ | ⟨rfl, hm, hc, hsy, hdr⟩
        · have HC := Lib.hid (Df.go_bad (b := bl b) (M := M) (t := t) (bl_ne R (by omega)) hc (by decide))
          clear hc
          go_wp2_with (first | (go_at_call 16; refine (HRD.out _).mono ?_; rintro r w2 ⟨rfl, hb2⟩) | (go_at_call 17; refine (HPC.out _).mono ?_; rintro r w4 ⟨rfl, hb4⟩))
          go_ret2
          exact ⟨ans_no (HF.out.goes.trans HC.out), fol_below HF.out.below hb2 hb4⟩
        · have HC := Lib.hid (Df.go_bad (b := bl b) (M := M) (t := t) (bl_ne R (by omega)) hc (by decide))
          have wm : IntKind.i64.wrap ((M : Int) - t.length) = (M : Int) - t.length := IntWalk.i64_in _ (by omega)
          have m1 : (M : Int) - t.length < X.size := by omega
          clear hc
          go_wp2_with (first | (go_at_call 16; refine (HRD.out _).mono ?_; rintro r w2 ⟨rfl, hb2⟩) | (go_at_call 17; refine (HPC.out _).mono ?_; rintro r w4 ⟨rfl, hb4⟩))
          go_ret2
          exact ⟨ans_no (HF.out.goes.trans HC.out), fol_below HF.out.below hb2 hb4⟩
        · have HC := Lib.hid (Df.go_good (b := bl b) (M := M) (t := t) (bl_ne R (by omega)) hc)
          rw [hsy, hdr] at HC
          have wm : IntKind.i64.wrap ((M : Int) - t.length) = (M : Int) - t.length := IntWalk.i64_in _ (by omega)
          have m1 : ¬ (M : Int) - t.length < X.size := by omega
          have hsl := slice_from R z z rfl hz
          have hzs : (R.extract z R.size).size = R.size - z := by rw [ByteArray.size_extract]; omega
          generalize R.extract z R.size = Y at *
          clear hc hsy hdr
          go_wp2_with (first
            | (go_at_call 16; refine (HRD.out _).mono ?_; rintro r w2 ⟨rfl, hb2⟩)
            | (go_at_call 17; refine (HPC.out _).mono ?_; rintro r w4 ⟨rfl, hb4⟩; have HO4 := Lib.hid (fol_own HF.out.own HF.out.below hb2 hb4))
            | (at_builtin; refine wpList_app_str2 rfl (.tmp 49) (.tmp 50) rfl rfl HO4.out.1 HO4.out.2.1 X rfl (by omega) ?_; intro v5 w5 ho5 hg5; obtain ⟨A5, c5, rfl⟩ := ho5.slice; have HO5 := Lib.hid (And.intro ho5 (fol_grown HO4.out hg5)); have i4 : w5.cell? ⟨w2.heap.size, 4, none⟩ = some (.int .i64 z) := (by rw [cell_of_cells HO5.out.2.1]; rfl); clear ho5 hg5))
          go_roundg Y.size
          case rel => exact ⟨Y, t ++ bl X, rfl, rfl, ⟨by have h := HO5.out.1; rw [List.length_append] at h; exact h, HO5.out.2.2, by rw [List.length_append, bl_length]; omega, by rw [List.length_append, bl_length]; omega, by rw [HF.out.goes, HC.out]⟩⟩
          case measure => omega
    · have h0i : ¬ (0 : Int) < R.size := by omega
      have hnil : bl R = [] := List.eq_nil_of_length_eq_zero (by rw [bl_length]; omega)
      have hst := HF.out.own.str
      by_cases hX : t.length < M
      · have HC := Lib.hid (Df.go_short (b := bl b) (M := M) (t := t) hX)
        have x1 : (t.length : Int) < M := by omega
        have HNIL := Lib.hid hnil
        clear hX hnil h0
        go_wp2
        go_ret2
        exact ⟨ans_no (HF.out.goes.trans (by rw [HNIL.out]; exact HC.out)), HF.out.below⟩
      · have HC := Lib.hid (Df.go_end (b := bl b) (M := M) (t := t) hX)
        have x1 : ¬ (t.length : Int) < M := by omega
        have HNIL := Lib.hid hnil
        clear hX hnil h0
        go_wp2
        go_ret2
        exact ⟨ans_mk (HF.out.goes.trans (by rw [HNIL.out]; exact HC.out)), HF.out.below⟩

set_option maxHeartbeats 4000000 in
set_option maxRecDepth 100000 in
theorem apply_any (b s : ByteArray) (m : Int) (w : World) (hb : b.size ≤ 2000) (hs : s.size ≤ 2000) (hm : m < 9223372036854775808) :
    Calls Try.prog 5 #[.string b, .string s, .int .i64 m] w fun e w' => e = .returned (ans (Df.applyF (bl b) (bl s) m.toNat)) ∧ Below w.heap.size w w' := by
  obtain ⟨L, hL⟩ : ∃ L, m.toNat = L := ⟨_, rfl⟩
  rw [hL]
  by_cases h8 : s.size < 8
  · have HE := Lib.hid (ap_short (b := bl b) (M := L) (show (bl s).length < 8 by rw [bl_length]; exact h8))
    have HS := Lib.hid (show ∀ w', Calls Try.prog 7 #[.string s] w' fun e w2 => e = .returned (.tuple #[.int .i64 0, .int .i64 2]) ∧ Below w'.heap.size w' w2 from fun w' => by
      have h := size_any s w' (by omega)
      unfold Df.sizeF at h
      rwa [if_pos (by rw [bl_length]; exact h8)] at h)
    clear h8
    go_enter Try.func5, Try.ntmps5
    go_wp2_with (go_at_call 7; refine (HS.out _).mono ?_; rintro r w1 ⟨rfl, hb1⟩)
    go_ret2
    exact ⟨ans_no HE.out, hb1⟩
  · have h8l : ¬ (bl s).length < 8 := by rw [bl_length]; exact h8
    obtain ⟨M, hM⟩ : ∃ M, Df.num ((bl s).drop 4) = M := ⟨_, rfl⟩
    obtain ⟨B, hB⟩ : ∃ B, Df.num (bl s) = B := ⟨_, rfl⟩
    have hM32 : M < 4294967296 := by rw [← hM]; exact Df.num_lt _
    have HS := Lib.hid (show ∀ w', Calls Try.prog 7 #[.string s] w' fun e w2 => e = .returned (.tuple #[.int .i64 M, .int .i64 0]) ∧ Below w'.heap.size w' w2 from fun w' => by
      have h := size_any s w' (by omega)
      unfold Df.sizeF at h
      rwa [if_neg (by rw [bl_length]; exact h8), hM] at h)
    have HN := Lib.hid (fun w' => number_any s w' (by omega) (by omega))
    rw [hB] at HN
    by_cases hst : B = b.size
    · have hbq : ((B : Int) == b.size) = true := by simp [hst]
      have hbn : ((B : Int) != b.size) = false := by simp [hst]
      by_cases hlim : L < M
      · have HE := Lib.hid (ap_limit (b := bl b) h8l (by rw [hB, bl_length]; exact hst) (by rw [hM]; exact hlim))
        have hl1 : m < M := by omega
        have hl2 : (0 : Int) < M := by omega
        clear h8 h8l hM hB hst
        go_enter Try.func5, Try.ntmps5
        go_wp2_with (first | (go_at_call 7; refine (HS.out _).mono ?_; rintro r w1 ⟨rfl, hb1⟩) | (go_at_call 10; refine (HN.out _).mono ?_; rintro r w2 ⟨rfl, hb2⟩))
        all_goals go_ret2
        all_goals exact ⟨ans_no HE.out, hb1.trans (hb2.mono hb1.size)⟩
      · have HE := Lib.hid (ap_goes (b := bl b) h8l (by rw [hB, bl_length]; exact hst) (by rw [hM]; exact hlim))
        rw [hM] at HE
        have hl1 : m < 0 → ¬ (0 : Int) < M := by omega
        have hl2 : ¬ m < 0 → ¬ m < (M : Int) := by omega
        have hsl := slice_from s 8 8 rfl (by omega)
        have hX := bl_drop s 8
        have hXs : (s.extract 8 s.size).size = s.size - 8 := by rw [ByteArray.size_extract]; omega
        generalize s.extract 8 s.size = X at *
        rw [← hX] at HE
        have HF := Lib.hid (fun w' => follow_any b X M w' hb (by omega) hM32)
        have HA := Lib.hid (show ans (Df.goF (bl b) M [] (bl X)) = .tuple #[.string (str (Df.goF (bl b) M [] (bl X)).1), .int .i64 (Df.goF (bl b) M [] (bl X)).2] from rfl)
        rw [HA.out] at HF
        clear h8 h8l hM hB hst hX hXs
        go_enter Try.func5, Try.ntmps5
        go_wp2_with (first | (go_at_call 7; refine (HS.out _).mono ?_; rintro r w1 ⟨rfl, hb1⟩) | (go_at_call 10; refine (HN.out _).mono ?_; rintro r w2 ⟨rfl, hb2⟩) | (go_at_call 11; refine (HF.out _).mono ?_; rintro r w3 ⟨rfl, hb3⟩))
        all_goals go_ret2
        all_goals exact ⟨by rw [HE.out, HA.out]; rfl, (hb1.trans (hb2.mono hb1.size)).trans (hb3.mono (Nat.le_trans hb1.size hb2.size))⟩
    · have HE := Lib.hid (ap_stale (b := bl b) (M := L) h8l (by rw [hB, bl_length]; exact hst))
      have hbq : ((B : Int) == b.size) = false := beq_eq_false_iff_ne.2 (by omega)
      have hbn : ((B : Int) != b.size) = true := by simp; omega
      clear h8 h8l hM hB hst
      go_enter Try.func5, Try.ntmps5
      go_wp2_with (first | (go_at_call 7; refine (HS.out _).mono ?_; rintro r w1 ⟨rfl, hb1⟩) | (go_at_call 10; refine (HN.out _).mono ?_; rintro r w2 ⟨rfl, hb2⟩))
      go_ret2
      exact ⟨ans_no HE.out, hb1.trans (hb2.mono hb1.size)⟩
end Go.Proofs.Ytcgaofndckiddaa.He
