/-
  Where bytes stood last: find (layer 8).
-/
import Derived.Test.YtepndjlgjaeonaaGh
namespace Go.Proofs.Ytepndjlgjaeonaa.Hg
open Go.RowKit Hw
set_option linter.unusedVariables false

/-- what is known of the map: each key stood at a place, not too far ahead -/
def KI (D : DataW Unit) (s : ByteArray) (lo hi : Nat) : Prop :=
  ∀ q : List UInt8, Maps.has D (.string q) = true → ∃ v : Nat, (∀ z, D.atKey (.string q) z = .lit (.int .i64 v)) ∧ lo ≤ v + 65535 ∧ v < hi ∧ v + 4 ≤ s.size ∧ q = ks s v
/-- so many bytes from a place on stand so far ahead, too -/
def Again (s : ByteArray) (k L d : Nat) : Prop := 4 ≤ L ∧ L ≤ 131 ∧ 1 ≤ d ∧ d ≤ 65535 ∧ d ≤ k ∧ k + L ≤ s.size ∧ ∀ i, i < L → (bl s).getD (k - d + i) 0 = (bl s).getD (k + i) 0
theorem ks_eq {s : ByteArray} {a b : Nat} (h : ks s a = ks s b) : ∀ i, i < 4 → (bl s).getD (a + i) 0 = (bl s).getD (b + i) 0 := by
  unfold ks at h
  simp only [List.cons.injEq, and_true] at h
  intro i hi
  have h4 : i = 0 ∨ i = 1 ∨ i = 2 ∨ i = 3 := by omega
  rcases h4 with rfl | rfl | rfl | rfl
  · exact h.1
  · exact h.2.1
  · exact h.2.2.1
  · exact h.2.2.2
theorem zero_int (w : World) : (zeroValue 3).run Try.prog w = .ok (.int .i64 0) w := by kernel_rfl
theorem elem_zero : plainElem (H := Unit) Try.prog 3 (.int .i64 0) = some (.lit (.int .i64 0), []) := plainElem_int Try.underlying3 (by decide)
/-- a look-up with ok -/
theorem look_run {w : World} {m n : Nat} {D : DataW Unit} (h : mapOf w m n D) (s : ByteArray) (k : Nat) :
    (Maps.has D (.string (ks s k)) = false ∧ (Instr.lookup 37 (.map (some m)) (kv s k) true).run Try.prog w = .ok (.tuple #[.int .i64 0, .bool false]) w) ∨
    (Maps.has D (.string (ks s k)) = true ∧ ∀ v : Int, (∀ z, D.atKey (.string (ks s k)) z = .lit (.int .i64 v)) → (Instr.lookup 37 (.map (some m)) (kv s k) true).run Try.prog w = .ok (.tuple #[.int .i64 v, .bool true]) w) := by
  obtain ⟨v, ps, hrun, hv⟩ := h.look_ok Try.keyed52 Try.underlying37 (zero_int w) elem_zero (key_kv s k)
  obtain ⟨c, rfl, hc, _⟩ := plainElem_int_inv Try.underlying3 hv
  simp only [Prod.mk.injEq] at hc
  cases hh : Maps.has D (.string (ks s k))
  · refine .inl ⟨rfl, ?_⟩
    rw [hh] at hrun
    have h0 := (Maps.atKey_of_not_has hh (.lit (.int .i64 0))).symm.trans hc.1
    injection h0 with h0
    injection h0 with _ h0
    rw [← h0] at hrun
    exact hrun
  · refine .inr ⟨rfl, fun v hv => ?_⟩
    rw [hh] at hrun
    have h0 := (hv (.lit (.int .i64 0))).symm.trans hc.1
    injection h0 with h0
    injection h0 with _ h0
    rw [h0]
    exact hrun

set_option maxHeartbeats 4000000 in
set_option maxRecDepth 100000 in
theorem find_any (w : World) (B b m : Nat) (s : ByteArray) (n : Nat) (D : DataW Unit) (A : Option Addr) (c : Nat) (o : List UInt8) (h : PrAt w B b m s n D A c o) (k : Nat) (hk : k < s.size) (hs : s.size ≤ 100000) (hi : KI D s k k) :
    Calls Try.prog 14 #[.pointer (some ⟨b, 0, none⟩), .int .i64 k] w fun r w' => ∃ L d : Nat, r = .returned (.tuple #[.int .i64 L, .int .i64 d]) ∧ Below w.heap.size w w' ∧ (L = 0 ∨ Again s k L d) := by
  by_cases h4 : k + 4 ≤ s.size
  · have HK := Lib.hid (keyYes_any w B b m s n D A c o h k h4 (by omega))
    obtain ⟨x0, hx0⟩ : ∃ x : Int, (((bl s).getD k 0).toNat : Int) = x := ⟨_, rfl⟩
    obtain ⟨x1, hx1⟩ : ∃ x : Int, (((bl s).getD (k + 1) 0).toNat : Int) = x := ⟨_, rfl⟩
    obtain ⟨x2, hx2⟩ : ∃ x : Int, (((bl s).getD (k + 2) 0).toNat : Int) = x := ⟨_, rfl⟩
    obtain ⟨x3, hx3⟩ : ∃ x : Int, (((bl s).getD (k + 3) 0).toNat : Int) = x := ⟨_, rfl⟩
    have HKV := Lib.hid (show kv s k = .agg #[.int .u8 x0, .int .u8 x1, .int .u8 x2, .int .u8 x3] by unfold kv bv; rw [hx0, hx1, hx2, hx3])
    have HP := Lib.hid h
    have HI := Lib.hid hi
    clear h hi hx0 hx1 hx2 hx3
    rw [HKV.out] at HK
    go_enter Try.func14, Try.ntmps14
    go_wp2_with (go_at_call 20; refine HK.out.mono ?_; rintro e w1 ⟨rfl, hb1⟩; have HP1 := Lib.hid (And.intro ((HP.out.below hb1).below ((Below.refl w1.heap.size w1).alloc (Nat.le_refl _) (.cells #[.int .u8 x0, .int .u8 x1, .int .u8 x2, .int .u8 x3] 52)).drew) ((hb1.alloc hb1.size (.cells #[.int .u8 x0, .int .u8 x1, .int .u8 x2, .int .u8 x3] 52)).drew)); clear hb1)
    refine wp_region_still_lit (by kernel_rfl) (by kernel_rfl) ?_
    change wpStill _ _ (World.drew _) (fun a' => Exit.then _ _ _ a' (World.drew _)) _ _
    have hz3 : w1.heap.size < (w1.alloc (.cells #[.int .u8 x0, .int .u8 x1, .int .u8 x2, .int .u8 x3] 52)).drew.heap.size := by simp
    have hh3 := heap_alloc_new w1 (.cells #[.int .u8 x0, .int .u8 x1, .int .u8 x2, .int .u8 x3] 52)
    have hh4 : (w1.alloc (.cells #[.int .u8 x0, .int .u8 x1, .int .u8 x2, .int .u8 x3] 52)).drew.heap[w1.heap.size]? = some (.cells #[.int .u8 x0, .int .u8 x1, .int .u8 x2, .int .u8 x3] 52) := hh3
    generalize (w1.alloc (.cells #[.int .u8 x0, .int .u8 x1, .int .u8 x2, .int .u8 x3] 52)).drew = w2 at *
    clear hh3
    have q0 : w2.cell? ⟨w1.heap.size, 0, none⟩ = some (.int .u8 x0) := cell_of_cells hh4 0
    have q1 : w2.cell? ⟨w1.heap.size, 1, none⟩ = some (.int .u8 x1) := cell_of_cells hh4 1
    have q2 : w2.cell? ⟨w1.heap.size, 2, none⟩ = some (.int .u8 x2) := cell_of_cells hh4 2
    have q3 : w2.cell? ⟨w1.heap.size, 3, none⟩ = some (.int .u8 x3) := cell_of_cells hh4 3
    have c1 := HP1.out.1.c1
    have c0 := HP1.out.1.c0
    have hlk := look_run HP1.out.1.map s k
    rw [HKV.out] at hlk
    clear hh4 hz3
    rcases hlk with ⟨hno, hrun⟩ | ⟨hyes, hrun⟩
    · iterate 11 ((with_reducible refine wpStill_step ?_); intro K hK; go_simp; refine hK _ ?_; clear hK K)
      refine wpStill_nil ?_
      go_wp2
      go_ret2
      exact ⟨0, 0, rfl, HP1.out.2, .inl rfl⟩
    · obtain ⟨v, hv, hlo, hhi, hv4, hq⟩ := HI.out _ hyes
      replace hrun := hrun v hv
      have HA := Lib.hid (And.intro (ks_eq hq) (And.intro hlo (And.intro hhi hv4)))
      clear hyes hv hq hlo
      iterate 11 ((with_reducible refine wpStill_step ?_); intro K hK; go_simp; refine hK _ ?_; clear hK K)
      refine wpStill_nil ?_
      clear hrun c1 q0 q1 q2 q3
      obtain ⟨mo, hmo⟩ : ∃ mo : Nat, min 131 (s.size - k) = mo := ⟨_, rfl⟩
      have hsub : IntKind.i64.wrap ((s.size : Int) - k) = (s.size : Int) - k := IntWalk.i64_in _ (by omega)
      go_wp2_with fail
      refine wp_region_still_lit (by kernel_rfl) (by kernel_rfl) ?_
      change wpStill _ _ (World.drew _) (fun a' => Exit.then _ _ _ a' (World.drew _)) _ _
      have hif : (if (s.size : Int) - k < 131 then (s.size : Int) - k else 131) = (mo : Int) := by split <;> omega
      iterate 10 ((with_reducible refine wpStill_step ?_); intro K hK; go_simp; refine hK _ ?_; clear hK K)
      refine wpStill_nil ?_
      have HMO := Lib.hid (And.intro (show mo ≤ 131 by omega) (And.intro (show 4 ≤ mo by omega) (show k + mo ≤ s.size by omega)))
      have HPW := Lib.hid (And.intro HP1.out.1.drew HP1.out.2.drew)
      clear hif hsub hmo c0 hhi hv4
      go_wp2_with fail
      go_loopg [9] (mo - 4) (fun gk i wx => ∃ L : Nat, 4 ≤ L ∧ L ≤ mo ∧ gk = mo - L ∧ i = .int .i64 L ∧ PrAt wx B b m s n D A c o ∧ Below w.heap.size w wx ∧ ∀ j, j < L → (bl s).getD (v + j) 0 = (bl s).getD (k + j) 0)
      case atStart => exact ⟨4, Nat.le_refl _, HMO.out.2.1, rfl, rfl, HPW.out.1, HPW.out.2, fun j hj => (HA.out.1 j hj).symm⟩
      case round =>
        obtain ⟨L, h4L, hLm, rfl, rfl, hpr, hbl, hj⟩ := hrel
        have hmo1 := HMO.out.1
        have hmo2 := HMO.out.2.2
        have hhi := HA.out.2.2.1
        have c0 := hpr.c0
        have HR := Lib.hid (And.intro hpr (And.intro hbl hj))
        have hdv : IntKind.i64.wrap ((k : Int) - v) = ((k - v : Nat) : Int) := (IntWalk.i64_in _ (by omega)).trans (by omega)
        have HAG := Lib.hid (show Again s k L (k - v) from ⟨h4L, by omega, by omega, by have := HA.out.2.1; omega, by omega, by omega, fun j h9 => by rw [show k - (k - v) + j = v + j by omega]; exact hj j h9⟩)
        generalize k - v = dd at *
        clear hpr hbl hj
        by_cases hlt : L < mo
        · have hli : (L : Int) < mo := by omega
          have hlb : decide ((L : Int) < mo) = true := decide_eq_true hli
          obtain ⟨q1, hq1⟩ : ∃ q1, v + L = q1 := ⟨_, rfl⟩
          obtain ⟨q2, hq2⟩ : ∃ q2, k + L = q2 := ⟨_, rfl⟩
          have hx1 : q1 < s.size := by omega
          have hx2 : q2 < s.size := by omega
          have hq1i : (q1 : Int) < s.size := by omega
          have hq2i : (q2 : Int) < s.size := by omega
          have hq10 : (0 : Int) ≤ q1 := by omega
          have hq20 : (0 : Int) ≤ q2 := by omega
          have hw1 : IntKind.i64.wrap ((v : Int) + L) = q1 := (IntWalk.i64_in _ (by omega)).trans (by omega)
          have hw2 : IntKind.i64.wrap ((k : Int) + L) = q2 := (IntWalk.i64_in _ (by omega)).trans (by omega)
          have he1 : (bl s).getD (v + L) 0 = s[q1] := by rw [hq1]; exact bl_getD s q1 hx1
          have he2 : (bl s).getD (k + L) 0 = s[q2] := by rw [hq2]; exact bl_getD s q2 hx2
          by_cases hab : s[q1] = s[q2]
          · have HE := Lib.hid (he1.trans (hab.trans he2.symm))
            have heq : ((s[q1].toNat : Int) == (s[q2].toNat : Int)) = true := by rw [hab]; simp
            have hed : decide ((s[q1].toNat : Int) = (s[q2].toNat : Int)) = true := by rw [hab]; simp
            obtain ⟨a, ha⟩ : ∃ a, (s[q1].toNat : Int) = a := ⟨_, rfl⟩
            obtain ⟨b9, hb9⟩ : ∃ b9, (s[q2].toNat : Int) = b9 := ⟨_, rfl⟩
            rw [ha, hb9] at heq hed
            clear hab he1 he2 hq1 hq2
            go_wp2_with fail
            refine wp_region_still_lit (by kernel_rfl) (by kernel_rfl) ?_
            change wpStill _ _ (World.drew _) (fun a' => Exit.then _ _ _ a' (World.drew _)) _ _
            iterate 22 ((with_reducible refine wpStill_step ?_); intro K hK; go_simp; refine hK _ ?_; clear hK K)
            refine wpStill_nil ?_
            clear ha hb9 heq hed hw1 hw2 hq1i hq2i hq10 hq20 hx1 hx2
            go_wp2
            go_roundg (mo - (L + 1))
            case rel => exact ⟨L + 1, by omega, by omega, rfl, by go_num, HR.out.1.drew, HR.out.2.1.drew, fun j h9 => by
              by_cases e : j = L
              · subst e; exact HE.out
              · exact HR.out.2.2 j (by omega)⟩
            case measure => omega
          · have heq : ((s[q1].toNat : Int) == (s[q2].toNat : Int)) = false := beq_eq_false_iff_ne.2 (fun e => hab (UInt8.toNat_inj.1 (by omega)))
            have hed : decide ((s[q1].toNat : Int) = (s[q2].toNat : Int)) = false := decide_eq_false (fun e => hab (UInt8.toNat_inj.1 (by omega)))
            obtain ⟨a, ha⟩ : ∃ a, (s[q1].toNat : Int) = a := ⟨_, rfl⟩
            obtain ⟨b9, hb9⟩ : ∃ b9, (s[q2].toNat : Int) = b9 := ⟨_, rfl⟩
            rw [ha, hb9] at heq hed
            clear hab he1 he2 hq1 hq2
            go_wp2_with fail
            refine wp_region_still_lit (by kernel_rfl) (by kernel_rfl) ?_
            change wpStill _ _ (World.drew _) (fun a' => Exit.then _ _ _ a' (World.drew _)) _ _
            iterate 22 ((with_reducible refine wpStill_step ?_); intro K hK; go_simp; refine hK _ ?_; clear hK K)
            refine wpStill_nil ?_
            clear ha hb9 heq hed hw1 hw2 hq1i hq2i hq10 hq20 hx1 hx2
            go_wp2
            go_ret2
            exact ⟨L, dd, rfl, HR.out.2.1.drew, .inr HAG.out⟩
        · obtain rfl : L = mo := by omega
          have hli : ¬ (L : Int) < L := by omega
          have hlb : decide ((L : Int) < L) = false := decide_eq_false hli
          go_wp2_with fail
          refine wp_region_still_lit (by kernel_rfl) (by kernel_rfl) ?_
          change wpStill _ _ (World.drew _) (fun a' => Exit.then _ _ _ a' (World.drew _)) _ _
          iterate 4 ((with_reducible refine wpStill_step ?_); intro K hK; go_simp; refine hK _ ?_; clear hK K)
          iterate 17 ((with_reducible refine wpStill_skip ?_ ?_); rfl; go_simp)
          ((with_reducible refine wpStill_step ?_); intro K hK; go_simp; refine hK _ ?_; clear hK K)
          refine wpStill_nil ?_
          go_wp2
          go_ret2
          exact ⟨L, dd, rfl, HR.out.2.1.drew, .inr HAG.out⟩
  · have HK := Lib.hid (keyNo_any w B b m s n D A c o h k (by omega) (by omega) (by omega) (by omega))
    clear h hi
    go_enter Try.func14, Try.ntmps14
    go_wp2_with (go_at_call 20; refine HK.out.mono ?_; rintro e w1 ⟨rfl, hb1⟩)
    go_ret2
    exact ⟨0, 0, rfl, hb1.alloc hb1.size _, .inl rfl⟩
end Go.Proofs.Ytepndjlgjaeonaa.Hg
