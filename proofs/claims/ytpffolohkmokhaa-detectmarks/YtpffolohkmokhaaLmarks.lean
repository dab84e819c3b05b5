/-
  Proved: DetectMarks returns true for every chain, every two texts and every vector, and changes nothing that was there.
  Conditions: none beside the row's own.
-/
import Derived.Test.YtpffolohkmokhaaDy
import Derived.Test.YtpffolohkmokhaaP
namespace Go.Proofs.Ytpffolohkmokhaa.detectMarks
open Go.ChangeShapes Go.WideShapes Go.ChangeAt Go.RowKit
open Go.ChangeMaps (open_string)
set_option linter.unusedVariables false

open Hs Hp Hd
/-- what is loaded: the chain, the vector -/
structure Lk (w wr : World) (x : Sh.Ch) (V : Array Value) : Prop where
  below : Below w.heap.size w wr
  lt : w.heap.size + 1 < wr.heap.size
  ch : wr.heap[w.heap.size]? = some (.cells (cs x) 36 (0, 0))
  ve : wr.heap[w.heap.size + 1]? = some (.cells V 23 (0, 0))
theorem Lk.more {w wr w1 : World} {x : Sh.Ch} {V : Array Value} (h : Lk w wr x V) (hb : Below wr.heap.size wr w1) : Lk w w1 x V :=
  have hl := h.lt
  ⟨h.below.trans (hb.mono h.below.size), Nat.lt_of_lt_of_le hl hb.size, (hb.block _ (by omega)).trans h.ch, (hb.block _ hl).trans h.ve⟩
theorem Lk.drew {w wr : World} {x : Sh.Ch} {V : Array Value} (h : Lk w wr x V) : Lk w wr.drew x V := ⟨h.below.drew, h.lt, h.ch, h.ve⟩
theorem Lk.start (w : World) (x : Sh.Ch) (V : Array Value) : Lk w ((w.alloc (.cells (cs x) 36)).alloc (.cells V 23)) x V :=
  ⟨((Below.refl _ w).alloc (Nat.le_refl _) _).alloc (by simp) _, by simp, heap_alloc2_old _ _ _, heap_alloc2_new _ _ _⟩

set_option maxHeartbeats 4000000 in
set_option maxRecDepth 100000 in
theorem walk (x : Sh.Ch) (k : ByteArray) (a b c : Int) (s : ByteArray) (hk : k.size ≤ maxLen) (hs : s.size ≤ maxLen) (w : World) : Calls Try.prog 4 #[.agg (cs x), .string k, .agg (vs a b c), .string s] w fun e w' => e = .returned (.bool true) ∧ Below w.heap.size w w' := by
  have HST := Lib.hid (Lk.start w x (vs a b c))
  by_cases hkl : k.size ≤ 200
  · by_cases hsl : s.size ≤ 200
    · have h1 : ¬ (200 : Int) < k.size := by omega
      have h2 : ¬ (200 : Int) < s.size := by omega
      have HS1 := Lib.hid (fun W => scan_any s W (by omega))
      have HS2 := Lib.hid (fun W => rscan_any s W (by omega))
      have HM1 := Lib.hid (fun W => marked_any x k a b c W (by omega))
      have HM2 := Lib.hid (fun W => rmarked_any x k a b c W (by omega))
      have HVI := Lib.hid (info23 a b c)
      generalize (decide (Dv.ok a b c) && Dv.marked x k.data.toList (Dv.diff a b c)) = mk at *
      generalize Dv.scan s.data.toList = sc at *
      generalize (⟨(Sh.sum s.data.toList).toArray⟩ : ByteArray) = D at *
      have heq : (D.toList == D.toList) = true := by simp
      generalize hVV : vs a b c = V at *
      clear hVV hk hs hkl hsl
      go_enter Try.func4, Try.ntmps4
      go_wp2_with fail
      refine (Hd.awake_any _).mono ?_
      rintro e1 w1 ⟨rfl, hb1⟩
      have hl1 := HST.out.more hb1
      clear hb1 HST
      go_wp2_with fail
      refine (HS1.out _).mono ?_
      rintro e2 w2 ⟨rfl, hb2⟩
      have hl2 := hl1.more hb2
      clear hb2 hl1
      go_wp2_with fail
      refine (HS2.out _).mono ?_
      rintro e3 w3 ⟨rfl, hb3⟩
      have hl3 := hl2.more hb3
      have HL3 := Lib.hid hl3
      clear hb3 hl2 hl3
      go_wp2_with fail
      refine wp_region_seq (fun W => Lk w W x V) [(0, false, 0), (1, false, 1), (2, false, 3), (4, false, 7), (5, false, 23), (6, false, 55), (3, true, 119), (7, true, 127), (8, false, 255), (9, false, 511), (10, false, 1023), (11, false, 2047), (12, false, 4095), (13, false, 8191), (14, false, 16383), (15, false, 32767), (16, false, 65535), (17, false, 131071), (18, false, 262143), (19, false, 524287)]
        20 (by kernel_rfl) (by kernel_rfl) (by kernel_rfl) (fun d _ _ _ _ h => by cases d <;> exact h) (by kernel_rfl) (by kernel_rfl) HL3.out.drew ?_
      refine seqH_take (.agg (cs x)) rfl (yields_load 36 (.tmp 4) rfl (by rfl) w.heap.size rfl 36 (cs x) (0, 0) _ (fun W hW => hW.ch) Try.underlying36 rfl (info27 _)) ?_
      go_simp
      refine seqH_take (.string k) rfl (Or.inl ⟨by rfl, fun W _ => by go_simp⟩) ?_
      go_simp
      refine seqH_take (.agg V) rfl (yields_load 23 (.tmp 6) rfl (by rfl) (w.heap.size + 1) rfl 23 V (0, 0) _ (fun W hW => hW.ve) Try.underlying23 rfl HVI.out) ?_
      go_simp
      refine seqH_take (.agg (cs x)) rfl (yields_load 36 (.tmp 4) rfl (by rfl) w.heap.size rfl 36 (cs x) (0, 0) _ (fun W hW => hW.ch) Try.underlying36 rfl (info27 _)) ?_
      go_simp
      refine seqH_take (.string k) rfl (Or.inl ⟨by rfl, fun W _ => by go_simp⟩) ?_
      go_simp
      refine seqH_take (.agg V) rfl (yields_load 23 (.tmp 6) rfl (by rfl) (w.heap.size + 1) rfl 23 V (0, 0) _ (fun W hW => hW.ve) Try.underlying23 rfl HVI.out) ?_
      go_simp
      refine seqH_call rfl (by rfl) (fun K hK => ?_)
      have HK := Lib.hid hK
      clear hK
      go_simp
      refine (HM1.out _).mono ?_
      rintro e4 w4 ⟨rfl, hb4⟩
      have hl4 := HL3.out.drew.more hb4
      clear hb4
      refine HK.out _ _ hl4 ?_
      clear HK K
      go_simp
      refine seqH_call rfl (by rfl) (fun K hK => ?_)
      have HK := Lib.hid hK
      clear hK
      go_simp
      refine (HM2.out _).mono ?_
      rintro e5 w5 ⟨rfl, hb5⟩
      have hl5 := hl4.more hb5
      clear hb5 hl4
      refine HK.out _ _ hl5 ?_
      clear HK K
      go_simp
      refine seqH_take (.bool true) rfl (Or.inl ⟨by rfl, fun W _ => by go_simp⟩) ?_
      go_simp
      refine seqH_take (.bool true) rfl (Or.inl ⟨by rfl, fun W _ => by go_simp⟩) ?_
      go_simp
      refine seqH_take (.string D) rfl (Or.inl ⟨by rfl, fun W _ => by go_simp⟩) ?_
      go_simp
      refine seqH_take (.string D) rfl (Or.inl ⟨by rfl, fun W _ => by go_simp⟩) ?_
      go_simp
      refine seqH_take (.bool true) rfl (Or.inl ⟨by rfl, fun W _ => by go_simp⟩) ?_
      go_simp
      refine seqH_take (.bool true) rfl (Or.inl ⟨by rfl, fun W _ => by go_simp⟩) ?_
      go_simp
      refine seqH_take (.bool true) rfl (Or.inl ⟨by rfl, fun W _ => by go_simp⟩) ?_
      go_simp
      refine seqH_take (.bool sc) rfl (Or.inl ⟨by rfl, fun W _ => by go_simp⟩) ?_
      go_simp
      refine seqH_take (.bool sc) rfl (Or.inl ⟨by rfl, fun W _ => by go_simp⟩) ?_
      go_simp
      refine seqH_take (.bool true) rfl (Or.inl ⟨by rfl, fun W _ => by go_simp⟩) ?_
      go_simp
      refine seqH_take (.bool true) rfl (Or.inl ⟨by rfl, fun W _ => by go_simp⟩) ?_
      go_simp
      refine seqH_take (.bool true) rfl (Or.inl ⟨by rfl, fun W _ => by go_simp⟩) ?_
      go_simp
      refine seqH_done ?_
      have HB5 := Lib.hid hl5.below
      clear hl5
      go_wp2
      go_ret
      exact ⟨rfl, HB5.out⟩
    · have h1 : ¬ (200 : Int) < k.size := by omega
      have h2 : (200 : Int) < s.size := by omega
      go_enter Try.func4, Try.ntmps4
      go_wp2_with fail
      refine (Hd.awake_any _).mono ?_
      rintro e1 w1 ⟨rfl, hb1⟩
      have HB1 := Lib.hid (HST.out.more hb1).below
      clear hb1
      go_wp2
      go_ret
      exact ⟨rfl, HB1.out⟩
  · have h1 : (200 : Int) < k.size := by omega
    go_enter Try.func4, Try.ntmps4
    go_wp2_with fail
    refine (Hd.awake_any _).mono ?_
    rintro e1 w1 ⟨rfl, hb1⟩
    have HB1 := Lib.hid (HST.out.more hb1).below
    clear hb1
    go_wp2
    go_ret
    exact ⟨rfl, HB1.out⟩

theorem own : ownKnob Try.prog.godebug = none := by kernel_rfl

set_option maxRecDepth 100000 in
theorem lifted (os : Os) (started : os.Started) (H : Type) (enc : TypeId × Value → H) :
    ReturnsInHanded {} Try.checked os 4 .any (Rows.detectMarksSpec.pre6 enc Try.prog Try.f4 Rows.detectMarksRow.domain false) (Rows.detectMarksSpec.post enc Try.prog Try.f4 false true false false) := by
  refine returnsInHanded_of_change (C := Try.checked) own started (by kernel_rfl) Try.func4
    (ChangeSpec.witness6 (enc := enc) (C := Try.checked) false ⟨#[], #[.agg #[.int .u32 0, .int .u32 0, .int .u32 0, .int .u32 0, .int .u32 0], .string ByteArray.empty, .agg #[.int .i64 0, .int .i64 0, .int .i64 0], .string ByteArray.empty], []⟩ 8 (by kernel_rfl) (by kernel_rfl) (by kernel_rfl) (by kernel_rfl)) ?_
  intro W base args ds gs before hval0 hW hcnd _
  have hval : ∀ (j : Nat) t v, Try.f4.params[j]? = some t → args[j]? = some v → Value.okWide Try.prog W .any base t v := hval0
  have hW' := hW
  obtain ⟨p, q, hA0, hV, rfl, hfz, hnd⟩ := hW
  have hA : DataW.TrodAll enc Try.prog W 0 (fun _ => true) true Try.f4.params.toList args.toList ds p := hA0
  rw [Try.params4] at hA hval
  obtain ⟨v0, vs0, d0, ds0, p0, q0, hargs, rfl, rfl, h0, r0⟩ := trodAll_cons hA
  obtain ⟨v1, vs1, d1, ds1, p1, q1, rfl, rfl, rfl, h1, r1⟩ := trodAll_cons r0
  obtain ⟨v2, vs2, d2, ds2, p2, q2, rfl, rfl, rfl, h2, r2⟩ := trodAll_cons r1
  obtain ⟨v3, vs3, d3, ds3, p3, q3, rfl, rfl, rfl, h3, r3⟩ := trodAll_cons r2
  obtain ⟨rfl, rfl, rfl⟩ := trodAll_nil r3
  obtain rfl : args = #[v0, v1, v2, v3] := by cases args; simp_all
  obtain ⟨rfl, rfl⟩ := trodVars_none hV
  obtain ⟨x0, rfl⟩ := Hp.open_chain (hval 0 36 v0 rfl rfl) h0
  obtain ⟨a1, rfl, rfl, rfl, w1⟩ := open_string Try.underlying9 (hval 1 9 v1 rfl rfl) h1
  obtain ⟨a2, b2, c2, rfl⟩ := Hd.open_vec (hval 2 23 v2 rfl rfl) h2
  obtain ⟨a3, rfl, rfl, rfl, w3⟩ := open_string Try.underlying9 (hval 3 9 v3 rfl rfl) h3
  clear hA0 hval0
  refine (walk x0 a1 a2 b2 c2 a3 w1 w3 W).mono fun e W' ⟨he, hg⟩ => ?_
  subst he
  exact ⟨_, rfl, law_post Try.laid (by kernel_rfl) (by kernel_rfl) Try.underlying4 rfl rfl hW' hg⟩

theorem over : Rows.detectMarksRow.holds Try.pinned (OpenSpec.ofChange Rows.detectMarksSpec) :=
  OpenClaim.holds_of_wide 4 Try.f4 rfl rfl rfl rfl rfl rfl rfl ⟨rfl, rfl, rfl, rfl, rfl⟩ rfl rfl rfl rfl rfl (by kernel_rfl) Try.func4 (by kernel_rfl)
    (of_decide_eq_true (by kernel_rfl)) (by unfold Func.isWrapper; first | (rw [if_pos (by decide +kernel)]; kernel_rfl) | (rw [if_neg (by decide +kernel)]; exact ⟨rfl, rfl⟩))
    (fun os started H enc _ => lifted os started H enc)
end Go.Proofs.Ytpffolohkmokhaa.detectMarks

namespace Go.Proofs.Ytpffolohkmokhaa
theorem detectMarks_holds : Rows.DetectMarksSaid := detectMarks.over
end Go.Proofs.Ytpffolohkmokhaa
