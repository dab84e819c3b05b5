/-
  For Sha1Steps: a step and Back undo each other; arrays of words are equal to themselves; an argument that is a chain.
-/
import Derived.Test.YtpffolohkmokhaaPi
import Derived.ChangeKeysEq
import Derived.OpenShut
namespace Go.Proofs.Ytpffolohkmokhaa.Hp
open Go.RowKit Hs
set_option linter.unusedVariables false

theorem rot_nat (x : UInt32) (n m : Nat) (h0 : 0 < n) (h : n < 32) (hm : m = 32 - n) : (Sh.rot x n).toNat = (x.toNat % 2 ^ m) * 2 ^ n + x.toNat / 2 ^ m := by
  subst hm
  have hx := w_lt x
  have e1 : (x <<< UInt32.ofNat n).toNat = (x.toNat % 2 ^ (32 - n)) * 2 ^ n := by
    rw [UInt32.toNat_shiftLeft, UInt32.toNat_ofNat', Nat.mod_eq_of_lt (show n < 2 ^ 32 by omega), Nat.mod_eq_of_lt h, Nat.shiftLeft_eq]
    conv => lhs; rw [show (2 : Nat) ^ 32 = 2 ^ (32 - n) * 2 ^ n by rw [← Nat.pow_add]; congr 1; omega, Nat.mul_mod_mul_right]
  have e2 : (x >>> UInt32.ofNat (32 - n)).toNat = x.toNat / 2 ^ (32 - n) := by
    rw [UInt32.toNat_shiftRight, UInt32.toNat_ofNat', Nat.mod_eq_of_lt (show 32 - n < 2 ^ 32 by omega), Nat.mod_eq_of_lt (show 32 - n < 32 by omega), Nat.shiftRight_eq_div_pow]
  have h2 : x.toNat / 2 ^ (32 - n) < 2 ^ n := by
    rw [Nat.div_lt_iff_lt_mul (Nat.two_pow_pos _), ← Nat.pow_add, show n + (32 - n) = 32 by omega]
    exact hx
  rw [Sh.rot, UInt32.toNat_or, e1, e2]
  have := Nat.shiftLeft_add_eq_or_of_lt h2 (x.toNat % 2 ^ (32 - n))
  rw [Nat.shiftLeft_eq] at this
  exact this.symm
theorem rot_30_2 (x : UInt32) : Sh.rot (Sh.rot x 30) 2 = x := by
  have hx := w_lt x
  apply UInt32.toNat_inj.1
  rw [rot_nat _ 2 30 (by omega) (by omega) rfl, rot_nat _ 30 2 (by omega) (by omega) rfl]
  omega
theorem rot_2_30 (x : UInt32) : Sh.rot (Sh.rot x 2) 30 = x := by
  have hx := w_lt x
  apply UInt32.toNat_inj.1
  rw [rot_nat _ 30 2 (by omega) (by omega) rfl, rot_nat _ 2 30 (by omega) (by omega) rfl]
  omega
theorem back_step (x : Sh.Ch) (t : Nat) (v : UInt32) : Sh.back (Sh.step x t v) t v = x := by
  obtain ⟨a, b, c, d, e⟩ := x
  simp only [Sh.step, Sh.back, rot_30_2]
  congr 1
  generalize Sh.rot a 5 = r
  generalize Sh.mix t b c d = m
  apply UInt32.toBitVec_inj.1
  simp only [UInt32.toBitVec_sub, UInt32.toBitVec_add]
  have h : r.toBitVec + m.toBitVec + e.toBitVec + v.toBitVec = e.toBitVec + (r.toBitVec + m.toBitVec + v.toBitVec) := by ac_rfl
  rw [h, BitVec.add_sub_cancel]
theorem step_back (x : Sh.Ch) (t : Nat) (v : UInt32) : Sh.step (Sh.back x t v) t v = x := by
  obtain ⟨a, b, c, d, e⟩ := x
  simp only [Sh.step, Sh.back, rot_2_30]
  congr 1
  generalize Sh.rot b 5 = r
  generalize Sh.mix t (Sh.rot c 2) d e = m
  apply UInt32.toBitVec_inj.1
  simp only [UInt32.toBitVec_sub, UInt32.toBitVec_add]
  have h : r.toBitVec + m.toBitVec + (a.toBitVec - (r.toBitVec + m.toBitVec + v.toBitVec)) + v.toBitVec = (a.toBitVec - (r.toBitVec + m.toBitVec + v.toBitVec)) + (r.toBitVec + m.toBitVec + v.toBitVec) := by ac_rfl
  rw [h, BitVec.sub_add_cancel]
theorem mix_clamp (t n : Nat) (h : n = min t 79) (b c d : UInt32) : Sh.mix n b c d = Sh.mix t b c d := by
  subst h
  by_cases h : t ≤ 79
  · rw [Nat.min_eq_left h]
  · unfold Sh.mix
    rw [if_neg (by omega), if_neg (by omega), if_neg (by omega), if_neg (by omega), if_neg (by omega), if_neg (by omega)]
theorem step_clamp (x : Sh.Ch) (t n : Nat) (h : n = min t 79) (v : UInt32) : Sh.step x n v = Sh.step x t v := by rw [Sh.step, Sh.step, mix_clamp t n h]
theorem back_clamp (x : Sh.Ch) (t n : Nat) (h : n = min t 79) (v : UInt32) : Sh.back x n v = Sh.back x t v := by rw [Sh.back, Sh.back, mix_clamp t n h]

theorem cells26 : Try.prog.cellsOf 30 = 1 := by kernel_rfl
theorem run_items (d : Nat) (A : Array Value) (w : World) : ∀ is : List Nat, (∀ i ∈ is, ∃ x : Int, A[i]? = some (.int .u32 x)) → (Op.eqItems (d + 1) 30 1 A A is).run Try.prog w = .ok true w
  | [], _ => by simp [Op.eqItems]
  | i :: is, h => by
    obtain ⟨x, hx⟩ := h i (by simp)
    have hp : (part 30 A i).run Try.prog w = .ok (.int .u32 x) w := by simp [part, Try.isAgg30, hx]
    have ih := run_items d A w is (fun j hj => h j (by simp [hj]))
    simp [Op.eqItems, Sem.run_bind, hp, run_equalIn_int w d 30 .u32 .u32 x x Try.underlying30, ih]
theorem run_eql_words {t : TypeId} {n : Nat} (hu : Try.prog.underlying t = some (.array n 30)) (A : Array Value) (hA : ∀ i, i < n → ∃ x : Int, A[i]? = some (.int .u32 x)) (w : World) : (binOp .eql t (.agg A) (.agg A)).run Try.prog w = .ok (.bool true) w := by
  obtain ⟨i0, hi0⟩ : ∃ i, Try.prog.info? 30 = some i := by
    cases h : Try.prog.info? 30 with
    | some i => exact ⟨i, rfl⟩
    | none => have : (Try.prog.info? 30).isSome = true := by kernel_rfl
              rw [h] at this; cases this
  have h := run_equalIn_array (P := Try.prog) w 9999 A A hu hi0
  rw [cells26, run_items 9998 A w _ (fun i hi => hA i (by simpa using hi))] at h
  have h2 : (Op.equal t (.agg A) (.agg A)).run Try.prog w = .ok true w := h
  simp [binOp, h2]
theorem eql_ws29 (l : List UInt32) (w : World) : (binOp .eql 31 (.agg (ws l)) (.agg (ws l))).run Try.prog w = .ok (.bool true) w := run_eql_words Try.underlying31 _ (fun i hi => ⟨_, ws_get l i hi⟩) w
theorem eql_cs27 (x : Sh.Ch) (w : World) : (binOp .eql 36 (.agg (cs x)) (.agg (cs x))).run Try.prog w = .ok (.bool true) w := run_eql_words Try.underlying36 _ (fun i hi => ⟨_, cs_get x i hi⟩) w
theorem eql_cs28 (x : Sh.Ch) (w : World) : (binOp .eql 40 (.agg (cs x)) (.agg (cs x))).run Try.prog w = .ok (.bool true) w := run_eql_words Try.underlying40 _ (fun i hi => ⟨_, cs_get x i hi⟩) w

theorem guard27 : Try.prog.eqGuardType Try.prog.depth 36 = false := by kernel_rfl
theorem guard28 : Try.prog.eqGuardType Try.prog.depth 40 = false := by kernel_rfl
theorem guard29 : Try.prog.eqGuardType Try.prog.depth 31 = false := by kernel_rfl
theorem keep10 {W W' : World} {g h M : Nat} {a b c d e : UInt32} (hb : Below W.heap.size W W') (hg : g < M) (hh : h < M) (hS : W.cell? ⟨g, 0, none⟩ = some (.int .u32 (tn a)) ∧ W.cell? ⟨g, 1, none⟩ = some (.int .u32 (tn b)) ∧ W.cell? ⟨g, 2, none⟩ = some (.int .u32 (tn c)) ∧ W.cell? ⟨g, 3, none⟩ = some (.int .u32 (tn d)) ∧ W.cell? ⟨g, 4, none⟩ = some (.int .u32 (tn e)) ∧ W.cell? ⟨h, 0, none⟩ = some (.int .u32 (tn a)) ∧ W.cell? ⟨h, 1, none⟩ = some (.int .u32 (tn b)) ∧ W.cell? ⟨h, 2, none⟩ = some (.int .u32 (tn c)) ∧ W.cell? ⟨h, 3, none⟩ = some (.int .u32 (tn d)) ∧ W.cell? ⟨h, 4, none⟩ = some (.int .u32 (tn e)) ∧ M ≤ W.heap.size) :
    W'.cell? ⟨g, 0, none⟩ = some (.int .u32 (tn a)) ∧ W'.cell? ⟨g, 1, none⟩ = some (.int .u32 (tn b)) ∧ W'.cell? ⟨g, 2, none⟩ = some (.int .u32 (tn c)) ∧ W'.cell? ⟨g, 3, none⟩ = some (.int .u32 (tn d)) ∧ W'.cell? ⟨g, 4, none⟩ = some (.int .u32 (tn e)) ∧ W'.cell? ⟨h, 0, none⟩ = some (.int .u32 (tn a)) ∧ W'.cell? ⟨h, 1, none⟩ = some (.int .u32 (tn b)) ∧ W'.cell? ⟨h, 2, none⟩ = some (.int .u32 (tn c)) ∧ W'.cell? ⟨h, 3, none⟩ = some (.int .u32 (tn d)) ∧ W'.cell? ⟨h, 4, none⟩ = some (.int .u32 (tn e)) ∧ M ≤ W'.heap.size := by
  obtain ⟨g0, g1, g2, g3, g4, h0, h1, h2, h3, h4, hm⟩ := hS
  have kg : ∀ i, W'.cell? ⟨g, i, none⟩ = W.cell? ⟨g, i, none⟩ := fun i => hb.cell (p := ⟨g, i, none⟩) (Nat.lt_of_lt_of_le hg hm)
  have kh : ∀ i, W'.cell? ⟨h, i, none⟩ = W.cell? ⟨h, i, none⟩ := fun i => hb.cell (p := ⟨h, i, none⟩) (Nat.lt_of_lt_of_le hh hm)
  exact ⟨(kg 0).trans g0, (kg 1).trans g1, (kg 2).trans g2, (kg 3).trans g3, (kg 4).trans g4, (kh 0).trans h0, (kh 1).trans h1, (kh 2).trans h2, (kh 3).trans h3, (kh 4).trans h4, Nat.le_trans hm hb.size⟩

/-- an argument that is a chain -/
theorem open_chain {H : Type} {enc : TypeId × Value → H} {W : World} {base : Nat} {v : Value} {d : DataW H} {ps : List MemPlace} (hok : Value.okWide Try.prog W .any base 36 v)
    (h : DataW.Trod enc Try.prog W 0 (fun _ => true) true 36 v d ps) : ∃ x : Sh.Ch, v = .agg (cs x) := by
  simp only [Value.okWide, Try.underlying36] at hok
  obtain ⟨A, rfl, hsz, _⟩ := hok
  obtain ⟨fuel, hf⟩ := h
  obtain ⟨xs, m, _, _, hl, hxl, hi⟩ := DataW.trod_array Try.underlying36 hf
  have h5 : Try.prog.cellsOf 36 = 5 := by kernel_rfl
  have hc : (Value.agg A).cells = A := rfl
  rw [h5] at hsz
  rw [hc, cells26] at hi
  have hget : ∀ i, i < 5 → ∃ y : UInt32, A.toList[i]? = some (.int .u32 (tn y)) := fun i h => by
    have hh := hi i h
    rw [List.getElem?_eq_getElem (by omega)] at hh
    obtain ⟨n, hn, _, hw⟩ := DataW.trod_int Try.underlying30 hh
    have hb := bounds_u32 hw
    obtain ⟨y, rfl⟩ := tn_of hb.1 (by omega)
    refine ⟨y, ?_⟩
    have e := congrArg (fun l : List Value => l[0]?) hn
    simp only [List.getElem?_take, List.getElem?_drop, Nat.mul_one, Nat.add_zero] at e
    simpa using e
  obtain ⟨a, ha⟩ := hget 0 (by omega)
  obtain ⟨b, hb⟩ := hget 1 (by omega)
  obtain ⟨c, hc⟩ := hget 2 (by omega)
  obtain ⟨d', hd⟩ := hget 3 (by omega)
  obtain ⟨e, he⟩ := hget 4 (by omega)
  refine ⟨⟨a, b, c, d', e⟩, congrArg Value.agg ?_⟩
  apply Array.ext_getElem?
  intro i
  by_cases h : i < 5
  · rw [← Array.getElem?_toList]
    rcases (by omega : i = 0 ∨ i = 1 ∨ i = 2 ∨ i = 3 ∨ i = 4) with rfl | rfl | rfl | rfl | rfl
    · rw [ha]; rfl
    · rw [hb]; rfl
    · rw [hc]; rfl
    · rw [hd]; rfl
    · rw [he]; rfl
  · rw [Array.getElem?_eq_none (by omega), Array.getElem?_eq_none (by show 5 ≤ i; omega)]
end Go.Proofs.Ytpffolohkmokhaa.Hp
