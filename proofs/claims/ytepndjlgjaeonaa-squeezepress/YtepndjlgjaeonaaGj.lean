/-
  The place lies behind: pass (layer 8).
-/
import Derived.Test.YtepndjlgjaeonaaGi
namespace Go.Proofs.Ytepndjlgjaeonaa.Hg
open Go.RowKit Hw
set_option linter.unusedVariables false

theorem ki_put {D : DataW Unit} {s : ByteArray} {k : Nat} (h : KI D s k k) (hD : Maps.IsMap D) (hk : k + 4 ≤ s.size) : KI (D.put (.string (ks s k)) (.lit (.int .i64 k))) s k (k + 1) := by
  intro q hq
  by_cases e : q = ks s k
  · subst e
    exact ⟨k, fun z => Maps.atKey_put_same hD (show WideAt.IsKeyLit (.string (ks s k)) from trivial) _ z, by omega, by omega, hk, rfl⟩
  · have hne : (Lit.string q) ≠ .string (ks s k) := fun h9 => e (by injection h9)
    rw [Maps.has_put_other hne] at hq
    obtain ⟨v, h1, h2, h3, h4, h5⟩ := h q hq
    exact ⟨v, fun z => (Maps.atKey_put_other hne _ z).trans (h1 z), h2, by omega, h4, h5⟩
theorem ki_same {D : DataW Unit} {s : ByteArray} {k : Nat} (h : KI D s k k) : KI D s k (k + 1) := fun q hq => by
  obtain ⟨v, h1, h2, h3, h4, h5⟩ := h q hq
  exact ⟨v, h1, h2, by omega, h4, h5⟩
theorem ki_early {D : DataW Unit} {s : ByteArray} {k : Nat} (h : KI D s k (k + 1)) (hk : k < 65535) : KI D s (k + 1) (k + 1) := fun q hq => by
  obtain ⟨v, h1, h2, h3, h4, h5⟩ := h q hq
  exact ⟨v, h1, by omega, h3, h4, h5⟩
theorem ki_del {D : DataW Unit} {s : ByteArray} {k g : Nat} (h : KI D s k (k + 1)) (hg : g + 65535 = k) : KI (D.del (.string (ks s g))) s (k + 1) (k + 1) := fun q hq => by
  by_cases e : q = ks s g
  · subst e
    rw [Maps.has_del_same] at hq
    cases hq
  · have hne : (Lit.string q) ≠ .string (ks s g) := fun h9 => e (by injection h9)
    rw [Maps.has_del_other hne] at hq
    obtain ⟨v, h1, h2, h3, h4, h5⟩ := h q hq
    refine ⟨v, fun z => (Maps.atKey_del_other hne z).trans (h1 z), ?_, h3, h4, h5⟩
    by_cases hv : v = g
    · subst hv; exact absurd h5 e
    · omega
theorem ki_keep {D : DataW Unit} {s : ByteArray} {k g : Nat} {c : Int} (h : KI D s k (k + 1)) (hg : g + 65535 = k) (hc : D.atKey (.string (ks s g)) (.lit (.int .i64 0)) = .lit (.int .i64 c)) (hn : c ≠ g) : KI D s (k + 1) (k + 1) := fun q hq => by
  obtain ⟨v, h1, h2, h3, h4, h5⟩ := h q hq
  refine ⟨v, h1, ?_, h3, h4, h5⟩
  by_cases hv : v = g
  · subst hv h5
    have := (h1 _).symm.trans hc
    injection this with this
    injection this with _ this
    exact absurd this.symm hn
  · omega

/-- is there a key at a place? -/
def keyB (s : ByteArray) (k : Int) : Bool := decide (0 ≤ k ∧ k + 4 ≤ s.size)
theorem keyB_yes {s : ByteArray} {k : Int} (h : 0 ≤ k ∧ k + 4 ≤ s.size) : keyB s k = true := decide_eq_true h
theorem keyB_no {s : ByteArray} {k : Int} (h : ¬ (0 ≤ k ∧ k + 4 ≤ s.size)) : keyB s k = false := decide_eq_false h
/-- the key at a place, if there is one -/
theorem key_any (w : World) (B b m : Nat) (s : ByteArray) (n : Nat) (D : DataW Unit) (A : Option Addr) (c : Nat) (o : List UInt8) (h : PrAt w B b m s n D A c o) (k : Int) (h1 : -100000000 ≤ k) (h2 : k ≤ 100000000) (hs : s.size ≤ 100000000) :
    Calls Try.prog 20 #[.pointer (some ⟨b, 0, none⟩), .int .i64 k] w fun r w' => ∃ y0 y1 y2 y3 : Int, r = .returned (.tuple #[.agg #[.int .u8 y0, .int .u8 y1, .int .u8 y2, .int .u8 y3], .bool (keyB s k)]) ∧ (0 ≤ k ∧ k + 4 ≤ s.size → kv s k.toNat = .agg #[.int .u8 y0, .int .u8 y1, .int .u8 y2, .int .u8 y3]) ∧ Below w.heap.size w w' := by
  by_cases hk : 0 ≤ k ∧ k + 4 ≤ s.size
  · obtain ⟨j, rfl⟩ : ∃ j : Nat, k = j := ⟨k.toNat, by omega⟩
    refine (keyYes_any w B b m s n D A c o h j (by omega) hs).mono fun r w' hr => ⟨_, _, _, _, ?_, fun _ => rfl, hr.2⟩
    rw [hr.1, keyB_yes hk]
    rfl
  · refine (keyNo_any w B b m s n D A c o h k (by omega) h1 h2 hs).mono fun r w' hr => ⟨0, 0, 0, 0, ?_, fun h9 => absurd h9 hk, hr.2⟩
    rw [hr.1, keyB_no hk]

/-- a key in a variable of its own -/
theorem key_cells {w1 : World} {y0 y1 y2 y3 : Int} : (w1.alloc (.cells #[.int .u8 y0, .int .u8 y1, .int .u8 y2, .int .u8 y3] 52)).drew.heap[w1.heap.size]? = some (.cells #[.int .u8 y0, .int .u8 y1, .int .u8 y2, .int .u8 y3] 52) := heap_alloc_new w1 _

set_option maxHeartbeats 4000000 in
set_option maxRecDepth 100000 in
theorem pass_any (w : World) (B b m : Nat) (s : ByteArray) (n : Nat) (D : DataW Unit) (A : Option Addr) (c : Nat) (o : List UInt8) (h : PrAt w B b m s n D A c o) (k : Nat) (hk : k < s.size) (hs : s.size ≤ 100000) (hn : n ≤ 1000000) (hi : KI D s k k) :
    Calls Try.prog 15 #[.pointer (some ⟨b, 0, none⟩), .int .i64 k] w fun r w' => r = .returned (.tuple #[]) ∧ Below B w w' ∧ ∃ n' D', n' ≤ n + 1 ∧ PrAt w' B b m s n' D' A c o ∧ KI D' s (k + 1) (k + 1) := by
  have hBw : B ≤ w.heap.size := Nat.le_trans h.hb (Nat.le_of_lt h.lt)
  have HK := Lib.hid (key_any w B b m s n D A c o h k (by omega) (by omega) (by omega))
  have HP := Lib.hid h
  have HI := Lib.hid hi
  clear h hi
  go_enter Try.func15, Try.ntmps15
  go_upto_if 15 with (go_at_call 20; refine HK.out.mono ?_; rintro e w1 ⟨y0, y1, y2, y3, rfl, hkv, hb1⟩; have HKV := Lib.hid hkv; have HP1 := Lib.hid (And.intro (HP.out.below hb1) hb1); clear hkv hb1 HK)
  go_cut [5] (fun s5 wx => (∃ t, s5 = .bool t) ∧ Below B w wx ∧ ∃ n1 D1, n1 ≤ n + 1 ∧ PrAt wx B b m s n1 D1 A c o ∧ KI D1 s k (k + 1))
  case first =>
    by_cases h4 : k + 4 ≤ s.size
    · have hkv := HKV.out ⟨by omega, by omega⟩
      rw [Int.toNat_natCast] at hkv
      have HKV2 := Lib.hid hkv
      have hdt : keyB s (k : Int) = true := keyB_yes ⟨by omega, by omega⟩
      clear hkv HKV
      rw [hdt]
      go_wp2_with fail
      refine wp_region_still_tail 6 (by kernel_rfl) (by kernel_rfl) ?_
      simp only [List.take_succ_cons, List.take_zero, List.drop_succ_cons, List.drop_zero]
      change wpStill _ _ (World.drew _) (fun a' => wpList _ _ _ _ a' (World.drew _)) _ _
      have hh := key_cells (w1 := w1) (y0 := y0) (y1 := y1) (y2 := y2) (y3 := y3)
      have HP2 := Lib.hid (And.intro (HP1.out.1.below ((Below.refl w1.heap.size w1).alloc (Nat.le_refl _) (.cells #[.int .u8 y0, .int .u8 y1, .int .u8 y2, .int .u8 y3] 52)).drew) ((HP1.out.2.alloc HP1.out.2.size (.cells #[.int .u8 y0, .int .u8 y1, .int .u8 y2, .int .u8 y3] 52)).drew))
      generalize (w1.alloc (.cells #[.int .u8 y0, .int .u8 y1, .int .u8 y2, .int .u8 y3] 52)).drew = w2 at *
      have q0 : w2.cell? ⟨w1.heap.size, 0, none⟩ = some (.int .u8 y0) := cell_of_cells hh 0
      have q1 : w2.cell? ⟨w1.heap.size, 1, none⟩ = some (.int .u8 y1) := cell_of_cells hh 1
      have q2 : w2.cell? ⟨w1.heap.size, 2, none⟩ = some (.int .u8 y2) := cell_of_cells hh 2
      have q3 : w2.cell? ⟨w1.heap.size, 3, none⟩ = some (.int .u8 y3) := cell_of_cells hh 3
      have c1 := HP2.out.1.c1
      clear hh
      iterate 6 ((with_reducible refine wpStill_step ?_); intro K hK; go_simp; refine hK _ ?_; clear hK K)
      refine wpStill_nil ?_
      go_wp2_with (at_mapUpdate; refine wpList_mapUpdate_own _ rfl _ _ _ 37 rfl 52 3 Try.keyed52 Try.underlying37 (plainElem Try.prog 3) m n D rfl HP2.out.1.map (by unfold maxLen; omega) (.agg #[.int .u8 y0, .int .u8 y1, .int .u8 y2, .int .u8 y3]) (.int .i64 k) _ rfl rfl (by rw [← HKV2.out]; exact key_kv s k) _ [] (plainElem_int Try.underlying3 (by simp [Lit.wf, IntKind.min, IntKind.max, IntKind.signed, IntKind.bits]; omega)) ?_; intro w3 hm3 hg3; have hp3 := HP2.out.1.turned hm3 hg3; have HP3 := Lib.hid (And.intro hp3.1 ((HP2.out.2.mono hBw).trans hp3.2)); clear hm3 hg3 hp3)
      go_meet
      exact ⟨⟨_, rfl⟩, HP3.out.2, n + 1, _, Nat.le_refl _, HP3.out.1, ki_put HI.out HP.out.map.isMap h4⟩
    · have hdt : keyB s (k : Int) = false := keyB_no (by omega)
      have HP2 := Lib.hid (And.intro (HP1.out.1.below ((Below.refl w1.heap.size w1).alloc (Nat.le_refl _) (.cells #[.int .u8 y0, .int .u8 y1, .int .u8 y2, .int .u8 y3] 52))) ((HP1.out.2.alloc HP1.out.2.size (.cells #[.int .u8 y0, .int .u8 y1, .int .u8 y2, .int .u8 y3] 52)).mono hBw))
      rw [hdt]
      go_wp2
      go_meet
      exact ⟨⟨_, rfl⟩, HP2.out.2, n, D, by omega, HP2.out.1, ki_same HI.out⟩
  case rest =>
    obtain ⟨⟨t0, rfl⟩, hbc, n1, D1, hn1, hp1, hi1⟩ := hcut
    have hgw : IntKind.i64.wrap ((k : Int) - 65535) = (k : Int) - 65535 := IntWalk.i64_in _ (by omega)
    have hk2 := key_any wc B b m s n1 D1 A c o hp1 ((k : Int) - 65535) (by omega) (by omega) (by omega)
    have HQ := Lib.hid (And.intro hp1 (And.intro hi1 (And.intro hbc hn1)))
    clear hbc hn1 hp1 hi1 HP1 HKV
    by_cases h4 : 65535 ≤ k
    · obtain ⟨g, hg⟩ : ∃ g, g + 65535 = k := ⟨k - 65535, by omega⟩
      have hgi : (k : Int) - 65535 = g := by omega
      rw [hgi] at hgw hk2
      rw [keyB_yes ⟨by omega, by omega⟩] at hk2
      have HK2 := Lib.hid hk2
      clear hk2
      go_wp2_with (go_at_call 20; refine HK2.out.mono ?_; rintro e w3 ⟨z0, z1, z2, z3, rfl, hkv, hb3⟩; have HKV := Lib.hid hkv; have HP3 := Lib.hid (And.intro (HQ.out.1.below hb3) (HQ.out.2.2.1.trans (hb3.mono (Nat.le_trans HQ.out.1.hb (Nat.le_of_lt HQ.out.1.lt))))); clear hkv hb3 HK2)
      have hBw3 := HP3.out.2
      refine wp_region_still_lit (by kernel_rfl) (by kernel_rfl) ?_
      change wpStill _ _ (World.drew _) (fun a' => Exit.then _ _ _ a' (World.drew _)) _ _
      have hkv := HKV.out ⟨by omega, by omega⟩
      rw [Int.toNat_natCast] at hkv
      have HKV2 := Lib.hid hkv
      have hh := key_cells (w1 := w3) (y0 := z0) (y1 := z1) (y2 := z2) (y3 := z3)
      have HP4 := Lib.hid (And.intro (HP3.out.1.below ((Below.refl w3.heap.size w3).alloc (Nat.le_refl _) (.cells #[.int .u8 z0, .int .u8 z1, .int .u8 z2, .int .u8 z3] 52)).drew) (hBw3.trans ((((Below.refl w3.heap.size w3).alloc (Nat.le_refl _) (.cells #[.int .u8 z0, .int .u8 z1, .int .u8 z2, .int .u8 z3] 52)).drew).mono (Nat.le_trans HP3.out.1.hb (Nat.le_of_lt HP3.out.1.lt)))))
      generalize (w3.alloc (.cells #[.int .u8 z0, .int .u8 z1, .int .u8 z2, .int .u8 z3] 52)).drew = w4 at *
      have q0 : w4.cell? ⟨w3.heap.size, 0, none⟩ = some (.int .u8 z0) := cell_of_cells hh 0
      have q1 : w4.cell? ⟨w3.heap.size, 1, none⟩ = some (.int .u8 z1) := cell_of_cells hh 1
      have q2 : w4.cell? ⟨w3.heap.size, 2, none⟩ = some (.int .u8 z2) := cell_of_cells hh 2
      have q3 : w4.cell? ⟨w3.heap.size, 3, none⟩ = some (.int .u8 z3) := cell_of_cells hh 3
      have c1 := HP4.out.1.c1
      obtain ⟨cc, hlk, hat, _⟩ := HP4.out.1.map.lookup_int (t := 37) (e := 3) Try.keyed52 Try.underlying37 Try.underlying3 (zero_int w4) (key_kv s g)
      rw [HKV2.out] at hlk
      have HAT := Lib.hid hat
      clear hkv HKV hat
      by_cases hcg : cc = g
      · have hd1 : decide (cc = (g : Int)) = true := decide_eq_true hcg
        have hd2 : (cc == (g : Int)) = true := by simp [hcg]
        clear hcg
        iterate 11 ((with_reducible refine wpStill_step ?_); intro K hK; go_simp; refine hK _ ?_; clear hK K)
        refine wpStill_nil ?_
        go_wp2_with fail
        refine wp_region_still_tail 5 (by kernel_rfl) (by kernel_rfl) ?_
        simp only [List.take_succ_cons, List.take_zero, List.drop_succ_cons, List.drop_zero]
        change wpStill _ _ (World.drew _) (fun a' => wpList _ _ _ _ a' (World.drew _)) _ _
        clear hlk
        have HP5 := Lib.hid (And.intro HP4.out.1.drew HP4.out.2.drew)
        have HC5 := Lib.hid HKV2.out
        have p0 : w4.drew.cell? ⟨w3.heap.size, 0, none⟩ = some (.int .u8 z0) := q0
        have p1 : w4.drew.cell? ⟨w3.heap.size, 1, none⟩ = some (.int .u8 z1) := q1
        have p2 : w4.drew.cell? ⟨w3.heap.size, 2, none⟩ = some (.int .u8 z2) := q2
        have p3 : w4.drew.cell? ⟨w3.heap.size, 3, none⟩ = some (.int .u8 z3) := q3
        have r1 : w4.drew.cell? ⟨b, 1, none⟩ = some (.map (some m)) := c1
        clear q0 q1 q2 q3 c1 hh
        generalize w4.drew = w5 at *
        iterate 5 ((with_reducible refine wpStill_step ?_); intro K hK; go_simp; refine hK _ ?_; clear hK K)
        refine wpStill_nil ?_
        go_wp2_with (at_delete; refine wpList_delete_own _ rfl _ _ 37 52 rfl 3 Try.keyed52 Try.underlying37 (plainElem Try.prog 3) m n1 D1 rfl HP5.out.1.map (.agg #[.int .u8 z0, .int .u8 z1, .int .u8 z2, .int .u8 z3]) _ rfl (by rw [← HC5.out]; exact key_kv s g) ?_; intro w6 hm6 ht6; have hp6 := HP5.out.1.turned hm6 ht6.grown; have HP6 := Lib.hid (And.intro hp6.1 (HP5.out.2.trans hp6.2)); clear hm6 ht6 hp6)
        go_end0
        exact ⟨rfl, HP6.out.2, n1, HQ.out.2.2.2, D1.del (.string (ks s g)), HP6.out.1, ki_del HQ.out.2.1 hg⟩
      · have hd1 : decide (cc = (g : Int)) = false := decide_eq_false hcg
        have hd2 : (cc == (g : Int)) = false := beq_eq_false_iff_ne.2 hcg
        have HCG := Lib.hid hcg
        clear hcg
        iterate 11 ((with_reducible refine wpStill_step ?_); intro K hK; go_simp; refine hK _ ?_; clear hK K)
        refine wpStill_nil ?_
        go_wp2
        go_end0
        exact ⟨rfl, HP4.out.2, n1, D1, HQ.out.2.2.2, HP4.out.1, ki_keep HQ.out.2.1 hg HAT.out HCG.out⟩
    · rw [keyB_no (by omega)] at hk2
      have HK2 := Lib.hid hk2
      clear hk2
      go_wp2_with (go_at_call 20; refine HK2.out.mono ?_; rintro e w3 ⟨z0, z1, z2, z3, rfl, hkv, hb3⟩; have HKV := Lib.hid hkv; have HP3 := Lib.hid (And.intro (HQ.out.1.below hb3) (HQ.out.2.2.1.trans (hb3.mono (Nat.le_trans HQ.out.1.hb (Nat.le_of_lt HQ.out.1.lt))))); clear hkv hb3 HK2)
      have hBw3 := HP3.out.2
      refine wp_region_still_lit (by kernel_rfl) (by kernel_rfl) ?_
      change wpStill _ _ (World.drew _) (fun a' => Exit.then _ _ _ a' (World.drew _)) _ _
      clear HKV
      have HP4 := Lib.hid (And.intro (HP3.out.1.below ((Below.refl w3.heap.size w3).alloc (Nat.le_refl _) (.cells #[.int .u8 z0, .int .u8 z1, .int .u8 z2, .int .u8 z3] 52)).drew) (hBw3.trans ((((Below.refl w3.heap.size w3).alloc (Nat.le_refl _) (.cells #[.int .u8 z0, .int .u8 z1, .int .u8 z2, .int .u8 z3] 52)).drew).mono (Nat.le_trans HP3.out.1.hb (Nat.le_of_lt HP3.out.1.lt)))))
      iterate 2 ((with_reducible refine wpStill_step ?_); intro K hK; go_simp; refine hK _ ?_; clear hK K)
      iterate 8 ((with_reducible refine wpStill_skip ?_ ?_); rfl; go_simp)
      ((with_reducible refine wpStill_step ?_); intro K hK; go_simp; refine hK _ ?_; clear hK K)
      refine wpStill_nil ?_
      go_wp2
      go_end0
      exact ⟨rfl, HP4.out.2, n1, D1, HQ.out.2.2.2, HP4.out.1, ki_early HQ.out.2.1 (by omega)⟩
end Go.Proofs.Ytepndjlgjaeonaa.Hg
