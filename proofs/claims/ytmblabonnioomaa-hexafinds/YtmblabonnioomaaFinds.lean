/-
  Proved: for every list of names and every place in it the law HexaFinds returns true and leaves its arguments as they were (among names of one length each is found by its least beginning, and by all longer ones; by a shorter one others are, too).
  Conditions: none beside the row's own.
-/
import Derived.Test.YtmblabonnioomaaP
import Derived.Test.YtmblabonnioomaaF
namespace Go.Proofs.Ytmblabonnioomaa.hexaFinds
open Go.ChangeShapes Go.WideShapes Go.ChangeAt Go.RowKit
open Go.ChangeMaps (open_string)
set_option linter.unusedVariables false

/-- behind k names: all have one length, from 2 to 32 -/
def Even (ss : List ByteArray) (k : Nat) : Prop := ∀ j, j < k → (ss.getD j ByteArray.empty).size = (ss.getD 0 ByteArray.empty).size ∧ 2 ≤ (ss.getD j ByteArray.empty).size ∧ (ss.getD j ByteArray.empty).size ≤ 32

theorem even_len {ss : List ByteArray} {m : Nat} (hm : m < ss.length) (he : Even ss ss.length) : ∀ y ∈ bls ss, y.length = (bl (ss.getD m ByteArray.empty)).length := by
  intro y hy
  obtain ⟨i, hi, rfl⟩ := of_mem_bls hy
  rw [bl_length, bl_length, (he i hi).1, (he m hm).1]
theorem find_at (ad : Addr) (c B : Nat) (ss : List ByteArray) (m k : Nat) (hm : m < ss.length) (hn : ss.length ≤ 200) (hz : ∀ i, i < ss.length → (ss.getD i ByteArray.empty).size ≤ 5000) (he : Even ss ss.length)
    (w : World) (hr : Strs w B (some ad) ss) (hk : M.least (bls ss) (bl (ss.getD m ByteArray.empty)) ≤ k) (hk2 : k ≤ 2 * (ss.getD m ByteArray.empty).size) :
    Calls Try.prog 12 #[.slice (some ad) ss.length c, .string ((str (M.digs (bl (ss.getD m ByteArray.empty)))).extract 0 k)] w fun e w' => e = .returned (.tuple #[.string (ss.getD m ByteArray.empty), .int .i64 0]) ∧ Drawn w w' := by
  obtain ⟨_, h2, h32⟩ := he m hm
  have h := Find_any (some ad) c B ss ((str (M.digs (bl (ss.getD m ByteArray.empty)))).extract 0 k) w hr (by omega) (fun i hi => by have := hz i hi; omega) (by have := take_size (str (M.digs (bl (ss.getD m ByteArray.empty)))) k; rw [str_size, M.digs_length, bl_length] at this; omega)
  rw [bl_take, bl_str, M.find_long (even_len hm he) (mem_bls hm) (by rw [bl_length]; exact h32) hk (by rw [bl_length]; exact hk2)] at h
  rwa [str_bl] at h
theorem find_at' (ad : Addr) (c B : Nat) (ss : List ByteArray) (m k : Nat) (hm : m < ss.length) (hn : ss.length ≤ 200) (hz : ∀ i, i < ss.length → (ss.getD i ByteArray.empty).size ≤ 5000) (he : Even ss ss.length)
    (w : World) (hr : Strs w B (some ad) ss) (h4 : 4 ≤ k) (hk : k < M.least (bls ss) (bl (ss.getD m ByteArray.empty))) :
    Calls Try.prog 12 #[.slice (some ad) ss.length c, .string ((str (M.digs (bl (ss.getD m ByteArray.empty)))).extract 0 k)] w fun e w' => e = .returned (.tuple #[.string { data := #[] }, .int .i64 11]) ∧ Drawn w w' := by
  obtain ⟨_, h2, h32⟩ := he m hm
  have h := Find_any (some ad) c B ss ((str (M.digs (bl (ss.getD m ByteArray.empty)))).extract 0 k) w hr (by omega) (fun i hi => by have := hz i hi; omega) (by have := take_size (str (M.digs (bl (ss.getD m ByteArray.empty)))) k; rw [str_size, M.digs_length, bl_length] at this; omega)
  rwa [bl_take, bl_str, M.find_short (mem_bls hm) (by rw [bl_length]; exact h32) h4 hk (by rw [bl_length]; exact h2)] at h

set_option maxHeartbeats 1000000 in
set_option maxRecDepth 100000 in
theorem walk_in (ad : Addr) (c B : Nat) (ss : List ByteArray) (m : Nat) (w : World) (hr0 : Strs w B (some ad) ss) (hB : B ≤ w.heap.size) (hm : m < ss.length) :
    Calls Try.prog 5 #[.slice (some ad) ss.length c, .int .i64 m] w fun e w' => e = .returned (.bool true) ∧ Below w.heap.size w w' := by
  have HR0 := Lib.hid hr0
  clear hr0
  have hm0 : decide ((m : Int) < 0) = false := by simp
  have hm1 : decide (ss.length ≤ m) = false := by simp; omega
  go_enter Try.func5, Try.ntmps5
  go_wp2_with fail
  refine (awake_any _).mono ?_
  rintro e w1 ⟨rfl, hb1⟩
  have hr1 := HR0.out.below (hb1.mono hB)
  go_wp2_with fail
  refine (few_any _ _ _ _ _ hr1).mono ?_
  rintro e w2 ⟨r, rfl, rfl, hfew⟩
  have HR := Lib.hid hr1
  clear hr1 HR0
  cases r
  · clear hfew
    go_wp2
    go_ret
    exact ⟨rfl, hb1⟩
  · obtain ⟨hn, hz⟩ := hfew rfl
    have HZ := Lib.hid hz
    clear hfew hz
    go_wp2
    go_loopg [5] ss.length (fun g i wr => ∃ k : Nat, k ≤ ss.length ∧ g = ss.length - k ∧ i = .int .i64 k ∧ Even ss k ∧ Drawn w1 wr)
    case atStart => exact ⟨0, Nat.zero_le _, rfl, rfl, fun j hj => absurd hj (Nat.not_lt_zero _), Drawn.refl _⟩
    case round =>
      obtain ⟨k, hk, rfl, rfl, hev, hdr⟩ := hrel
      have HE := Lib.hid hev
      clear hev
      by_cases hlt : k < ss.length
      · obtain ⟨ad1, had1, _, hc1⟩ := HR.out k hlt
        obtain rfl : ad = ad1 := by injection had1
        obtain ⟨ad2, had2, _, hc2⟩ := HR.out 0 (by omega)
        obtain rfl : ad = ad2 := by injection had2
        clear had1 had2
        have hc3 : wr.cell? (ad.add k) = some (.string (ss.getD k ByteArray.empty)) := by rw [hdr.cell]; exact hc1
        have hc4 : wr.cell? ad = some (.string (ss.getD 0 ByteArray.empty)) := by rw [hdr.cell]; exact hc2
        clear hc1 hc2
        have hzk := HZ.out k hlt
        have hz0 := HZ.out 0 (by omega)
        generalize hy : ss.getD k ByteArray.empty = y at *
        generalize hx : ss.getD 0 ByteArray.empty = x at *
        have HY := Lib.hid hy
        have HX := Lib.hid hx
        clear hy hx
        by_cases h1 : y.size = x.size
        · have b1 : ((y.size : Int) != (x.size : Int)) = false := by rw [h1]; simp
          have b1' : (y.size != x.size) = false := by rw [h1]; simp
          have H1 := Lib.hid h1
          clear h1
          by_cases h2 : y.size < 2
          · have b2 : decide ((y.size : Int) < 2) = true := by simp; omega
            go_wp2_with fail
            go_quiet (fail)
            go_wp2
            go_ret
            exact ⟨rfl, hb1.trans ((hdr.more _).below _)⟩
          · have b2 : decide ((y.size : Int) < 2) = false := by simp; omega
            by_cases h3 : 32 < y.size
            · have b3 : decide (32 < (y.size : Int)) = true := by simp; omega
              go_wp2_with fail
              go_quiet (fail)
              go_wp2
              go_ret
              exact ⟨rfl, hb1.trans ((hdr.more _).below _)⟩
            · have b3 : decide (32 < (y.size : Int)) = false := by simp; omega
              go_wp2_with fail
              go_quiet (fail)
              go_wp2
              go_roundg (ss.length - (k + 1))
              case rel =>
                refine ⟨k + 1, by omega, rfl, by go_num, fun j hj => ?_, hdr.more _⟩
                by_cases e : j = k
                · subst e
                  rw [HY.out, HX.out]
                  exact ⟨H1.out, by omega, by omega⟩
                · exact HE.out j (by omega)
              case measure => omega
        · have b1 : ((y.size : Int) != (x.size : Int)) = true := by simp; omega
          have b1' : (y.size != x.size) = true := by simp; omega
          have H1 := Lib.hid h1
          clear h1
          go_wp2_with fail
          go_quiet (fail)
          go_wp2
          go_ret
          exact ⟨rfl, hb1.trans ((hdr.more _).below _)⟩
      · obtain rfl : k = ss.length := by omega
        obtain ⟨ad1, had1, _, hc1⟩ := HR.out m hm
        obtain rfl : ad = ad1 := by injection had1
        clear had1
        have hcm : wr.cell? (ad.add m) = some (.string (ss.getD m ByteArray.empty)) := by rw [hdr.cell]; exact hc1
        clear hc1
        have hb2 := (HE.out m hm).2.1
        have hb32 := (HE.out m hm).2.2
        have hfl := fun k => find_at ad c B ss m k hm hn HZ.out HE.out
        have HF := Lib.hid hfl
        have hfs := fun k => find_at' ad c B ss m k hm hn HZ.out HE.out
        have HS := Lib.hid hfs
        clear hfl hfs HE
        have hlst := fun w' h => Least_any (some ad) c B ss (ss.getD m ByteArray.empty) w' h (by omega) (fun i hi => by have := HZ.out i hi; omega) (by omega)
        have HL := Lib.hid hlst
        clear hlst
        generalize ss.getD m ByteArray.empty = b at *
        have hn4 : 4 ≤ M.least (bls ss) (bl b) := M.least_ge
        have hn2 : M.least (bls ss) (bl b) ≤ 2 * b.size := by have := M.least_le (l := bls ss) (b := bl b) (by rw [bl_length]; exact hb2); rwa [bl_length] at this
        generalize M.least (bls ss) (bl b) = n at *
        have hsz : (str (M.digs (bl b))).size = 2 * b.size := by rw [str_size, M.digs_length, bl_length]
        have hBr : B ≤ wr.heap.size := by rw [hdr.heap]; exact Nat.le_trans hB hb1.size
        go_wp2_with fail
        refine (Digits_any _ _ (by omega)).mono ?_
        rintro e w3 ⟨rfl, hb3⟩
        have hr3 := (HR.out.drawn hdr).below (hb3.mono hBr)
        have HR3 := Lib.hid hr3
        clear hr3
        go_wp2_with fail
        refine (HL.out _ HR3.out).mono ?_
        rintro e w4 ⟨rfl, rfl⟩
        have hbw : Below w.heap.size w w3 := (hb1.trans (hdr.below _)).trans (hb3.mono (by rw [hdr.heap]; exact hb1.size))
        clear hb1 hdr hb3
        have t1 : decide ((n : Int) < 4) = false := by simp; omega
        have t2 : decide (2 * (b.size : Int) < (n : Int)) = false := by simp; omega
        go_wp2
        go_loopg [9] (2 * b.size + 1 - 4) (fun g i wx => ∃ k : Nat, 4 ≤ k ∧ k ≤ 2 * b.size + 1 ∧ g = 2 * b.size + 1 - k ∧ i = .int .i64 k ∧ Drawn w3 wx)
        case atStart => exact ⟨4, Nat.le_refl _, by omega, rfl, rfl, Drawn.refl _⟩
        case round =>
          obtain ⟨k, hk4, hk, rfl, rfl, hdx⟩ := hrel
          have hr4 := HR3.out.drawn hdx
          have HR4 := Lib.hid hr4
          clear hr4
          by_cases hlt : k ≤ 2 * b.size
          · have l1 : (k : Int) ≤ 2 * (b.size : Int) := by omega
            by_cases hkn : n ≤ k
            · have l2 : decide ((n : Int) ≤ (k : Int)) = true := by simp; omega
              have l3 : decide (n ≤ k) = true := by simp; omega
              have l4 : decide (k < n) = false := by simp; omega
              go_wp2_with fail
              refine (HF.out k _ HR4.out hkn hlt).mono ?_
              rintro e w5 ⟨rfl, hd5⟩
              go_wp2
              go_roundg (2 * b.size + 1 - (k + 1))
              case rel => exact ⟨k + 1, by omega, by omega, rfl, by go_num, hdx.trans hd5⟩
              case measure => omega
            · have l2 : decide ((n : Int) ≤ (k : Int)) = false := by simp; omega
              have l3 : decide (n ≤ k) = false := by simp; omega
              have l4 : decide (k < n) = true := by simp; omega
              go_wp2_with fail
              refine (HS.out k _ HR4.out hk4 (by omega)).mono ?_
              rintro e w5 ⟨rfl, hd5⟩
              go_wp2
              go_roundg (2 * b.size + 1 - (k + 1))
              case rel => exact ⟨k + 1, by omega, by omega, rfl, by go_num, hdx.trans hd5⟩
              case measure => omega
          · have l1 : ¬ (k : Int) ≤ 2 * (b.size : Int) := by omega
            go_wp2
            go_ret
            exact ⟨rfl, hbw.trans (hdx.below _)⟩

theorem walk (A : Option Addr) (c : Nat) (ss : List ByteArray) (a1 : Int) (w : World) (hr : Strs w w.heap.size A ss) (w1 : (Lit.int .i64 a1).wf = true) :
    Calls Try.prog 5 #[.slice A ss.length c, .int .i64 a1] w fun e w' => e = .returned (.bool true) ∧ Below w.heap.size w w' := by
  by_cases h : 0 ≤ a1 ∧ a1 < ss.length
  · obtain ⟨h0, h1⟩ := h
    obtain ⟨m, rfl⟩ := Int.eq_ofNat_of_zero_le h0
    obtain ⟨ad, rfl, _, _⟩ := hr 0 (by omega)
    exact walk_in ad c w.heap.size ss m w hr (Nat.le_refl _) (by omega)
  · have HR0 := Lib.hid hr
    clear hr w1
    go_enter Try.func5, Try.ntmps5
    go_wp2_with fail
    refine (awake_any _).mono ?_
    rintro e w1 ⟨rfl, hb1⟩
    have hr1 := HR0.out.below hb1
    go_wp2_with fail
    refine (few_any _ _ _ _ _ hr1).mono ?_
    rintro e w2 ⟨r, rfl, rfl, hfew⟩
    clear hr1 HR0 hfew
    cases r
    · go_wp2
      go_ret
      exact ⟨rfl, hb1⟩
    · go_wp2
      all_goals go_ret
      all_goals exact ⟨rfl, hb1⟩

theorem own : ownKnob Try.prog.godebug = none := by kernel_rfl

set_option maxRecDepth 100000 in
theorem lifted (os : Os) (started : os.Started) (H : Type) (enc : TypeId × Value → H) :
    ReturnsInHanded {} Try.checked os 5 .any (Rows.hexaFindsSpec.pre6 enc Try.prog Try.f5 Rows.hexaFindsRow.domain false) (Rows.hexaFindsSpec.post enc Try.prog Try.f5 false true false false) := by
  refine returnsInHanded_of_change (C := Try.checked) own started (by kernel_rfl) Try.func5
    (ChangeSpec.witness6 (enc := enc) (C := Try.checked) false ⟨#[], #[.slice none 0 0, .int .i64 0], []⟩ 8 (by kernel_rfl) (by kernel_rfl) (by kernel_rfl) (by kernel_rfl)) ?_
  intro W base args ds gs before hval0 hW hcnd _
  have hval : ∀ (j : Nat) t v, Try.f5.params[j]? = some t → args[j]? = some v → Value.okWide Try.prog W .any base t v := hval0
  have hW' := hW
  obtain ⟨p, q, hA0, hV, rfl, hfz, hnd⟩ := hW
  have hA : DataW.TrodAll enc Try.prog W 0 (fun _ => true) true Try.f5.params.toList args.toList ds p := hA0
  rw [Try.params5] at hA hval
  obtain ⟨v0, vs0, d0, ds0, p0, q0, hargs, rfl, rfl, h0, r0⟩ := trodAll_cons hA
  obtain ⟨v1, vs1, d1, ds1, p1, q1, rfl, rfl, rfl, h1, r1⟩ := trodAll_cons r0
  obtain ⟨rfl, rfl, rfl⟩ := trodAll_nil r1
  obtain rfl : args = #[v0, v1] := by cases args; simp_all
  obtain ⟨rfl, rfl⟩ := trodVars_none hV
  obtain ⟨A0, ss0, c0, rfl, hr0⟩ := open_strs_arg (hval 0 22 v0 rfl rfl) h0
  obtain ⟨a1, rfl, rfl, rfl, w1⟩ := open_int Try.underlying3 (hval 1 3 v1 rfl rfl) h1
  clear hA0 hval0
  refine (walk A0 c0 ss0 a1 W hr0 w1).mono fun e W' ⟨he, hg⟩ => ?_
  subst he
  exact ⟨_, rfl, law_post Try.laid (by kernel_rfl) (by kernel_rfl) Try.underlying4 rfl rfl hW' hg⟩

theorem over : Rows.hexaFindsRow.holds Try.pinned (OpenSpec.ofChange Rows.hexaFindsSpec) :=
  OpenClaim.holds_of_wide 5 Try.f5 rfl rfl rfl rfl rfl rfl rfl ⟨rfl, rfl, rfl, rfl, rfl⟩ rfl rfl rfl rfl rfl (by kernel_rfl) Try.func5 (by kernel_rfl)
    (of_decide_eq_true (by kernel_rfl)) (by unfold Func.isWrapper; first | (rw [if_pos (by decide +kernel)]; kernel_rfl) | (rw [if_neg (by decide +kernel)]; exact ⟨rfl, rfl⟩))
    (fun os started H enc _ => lifted os started H enc)
end Go.Proofs.Ytmblabonnioomaa.hexaFinds

namespace Go.Proofs.Ytmblabonnioomaa
theorem hexaFinds_holds : Rows.HexaFindsSaid := hexaFinds.over
end Go.Proofs.Ytmblabonnioomaa
