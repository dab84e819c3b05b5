/-
  Bytes that are appended one by one to a slice of the call's own, its array marked or not (what a conversion of a string lays).
-/
import Derived.Test.YtpffolohkmokhaaShd
import Derived.ArgAppend
import Derived.Laws.IdiomStrings
import Derived.Laws.BytesArg
import Derived.Maps.AppendAt
import Derived.OwnWalk
namespace Go.Proofs.Ytpffolohkmokhaa.Hs
open Go.RowKit
set_option linter.unusedVariables false

/-- a slice of bytes of the call's own, wherever it lies by now, its array marked or not: it reads as l -/
def Bts (w : World) (B : Nat) (v : Value) (l : List UInt8) : Prop :=
  ∃ g cap, v = .slice (some ⟨g, 0, none⟩) l.length cap ∧ B ≤ g ∧ g < w.heap.size ∧ l.length ≤ cap ∧ (∀ j, j < l.length → w.cell? ⟨g, j, none⟩ = some (.int .u8 (l.getD j 0).toNat)) ∧
    ∀ j, j < cap → (w.cell? ⟨g, j, none⟩).isSome = true ∧ w.frozen? ⟨g, j, none⟩ = false
section
variable {P : Program} {w w' : World} {B : Nat} {v : Value} {l : List UInt8}
theorem Bts.below (h : Bts w B v l) (hb : Below w.heap.size w w') : Bts w' B v l := by
  obtain ⟨g, cap, hv, h1, h2, h3, h4, h5⟩ := h
  exact ⟨g, cap, hv, h1, Nat.lt_of_lt_of_le h2 hb.size, h3, fun j hj => by rw [hb.cell (p := ⟨g, j, none⟩) h2]; exact h4 j hj, fun j hj => by rw [hb.cell (p := ⟨g, j, none⟩) h2, hb.frozen (p := ⟨g, j, none⟩) h2]; exact h5 j hj⟩
theorem Bts.alloc (h : Bts w B v l) (o : Obj) : Bts (w.alloc o) B v l := h.below ((Below.refl _ w).alloc (Nat.le_refl _) _)
theorem Bts.of_own {base n : Nat} (h : w.ownsRow base 5 1 v n (l.map fun c => .int .u8 c.toNat)) (hB : B ≤ base) (hl : l ≠ []) : Bts w B v l := by
  have hn : l.length = n := by have := h.1; simp at this; omega
  subst hn
  rcases h.2 with ⟨rfl, h0⟩ | ⟨g, cap, cur, rfl, hb, hg, hle, hm, hsz, htk⟩
  · exact absurd (List.eq_nil_of_length_eq_zero h0) hl
  · refine ⟨g, cap, rfl, Nat.le_trans hB hb, (Array.getElem?_eq_some_iff.1 hg).1, hle, fun j hj => ?_, fun j hj => ?_⟩
    · have := h.cells (g := g) rfl j (.int .u8 (l.getD j 0).toNat) (by simp [List.getD, List.getElem?_eq_getElem hj])
      rwa [show (⟨g, 0, none⟩ : Addr).add j = ⟨g, j, none⟩ by unfold Addr.add; split <;> simp_all] at this
    · rw [cell_of_row w g j cur 5 (0, 0) hg, frozen_of_row w g j cur 5 hg]
      refine ⟨?_, rfl⟩
      rw [Array.getElem?_eq_getElem (by omega)]; rfl
theorem add_zero_of (g j : Nat) : (⟨g, 0, none⟩ : Addr).add j = ⟨g, j, none⟩ := by unfold Addr.add; split <;> simp_all
theorem getD_snoc8 (l : List UInt8) (c : UInt8) (j : Nat) (h : j < l.length) : (l ++ [c]).getD j 0 = l.getD j 0 := by simp [List.getD, List.getElem?_append_left h]

/-- one byte more -/
theorem run_append_bts (t ty : TypeId) (i : TypeInfo) (ht : P.underlying t = some (.slice 5)) (hi : P.info? 5 = some i) (hz : i.zero = some (.int .u8 0)) (hs : i.size = 1) (hby : i.bytes = 1)
    (h : Bts w B v l) (hB : B ≤ w.heap.size) (c : UInt8) (x : Int) (hx : x = c.toNat) (hl : l.length + 1 ≤ 1000000) (ad : Addr) (hc : w.cell? ad = some (.int .u8 x)) (m : Nat) :
    ∃ v' w', (Builtin.append_ #[t, t] ty #[v, .slice (some ad) 1 m]).run P w = .ok v' w' ∧ Bts w' B v' (l ++ [c]) ∧ Below B w w' := by
  subst hx
  have hnews : ∀ (j : Nat) (u : Value), [Value.int .u8 c.toNat][j]? = some u → w.cell? (ad.add j) = some u := fun j u hu => by
    have hj : j = 0 := by
      rcases Nat.eq_zero_or_pos j with h0 | h0
      · exact h0
      · rw [List.getElem?_eq_none (by simp; omega)] at hu; cases hu
    subst hj
    simp at hu
    subst hu
    exact hc
  obtain ⟨g, cap, rfl, h1, h2, h3, h4, h5⟩ := h
  by_cases hroom : l.length + 1 ≤ cap
  · have hr := run_append_room_cells (P := P) w t ty 5 i ht hi g 0 l.length cap ad 1 m [.int .u8 c.toNat] (by simp [hs]) hnews (by simp [Value.oneCell']) hroom
      (fun j hj => by simp at hj; subst hj; simp [hs]; exact (h5 l.length (by omega)).1) (fun j hj => by simp at hj; subst hj; simp [hs]; exact (h5 l.length (by omega)).2)
    have hset : w.setCells g (0 + l.length * i.size) [.int .u8 c.toNat] = w.setCell ⟨g, l.length, none⟩ (.int .u8 c.toNat) := by simp [hs, World.setCells]
    rw [hset] at hr
    refine ⟨_, _, hr, ?_, (Below.refl _ w).setCell h1 _⟩
    refine ⟨g, cap, by simp, h1, by simpa using h2, by simpa using hroom, fun j hj => ?_, fun j hj => ?_⟩
    · simp at hj
      by_cases e : j = l.length
      · subst e
        have hsome := (h5 l.length (by omega)).1
        rw [World.cell?_setCell_same' _ _ _ hsome]
        simp
      · rw [World.cell?_setCell_other _ _ _ _ (fun e' => by injection e' with _ e'; exact e e'.symm), h4 j (by omega), getD_snoc8 _ _ _ (by omega)]
    · refine ⟨?_, by simpa using (h5 j hj).2⟩
      by_cases e : j = l.length
      · subst e
        rw [World.cell?_setCell_same' _ _ _ (h5 l.length hj).1]; rfl
      · rw [World.cell?_setCell_other _ _ _ _ (fun e' => by injection e' with _ e'; exact e e'.symm)]
        exact (h5 j hj).1
  · have hr := run_append_arg_grows (P := P) w t ty 5 i (.int .u8 0) 1 1 ht hi hz hs hby rfl (by omega) ⟨g, 0, none⟩ l.length cap (l.map fun c => .int .u8 c.toNat) (by simp)
      (fun j u hu => by
        have hj : j < l.length := by
          rcases Nat.lt_or_ge j l.length with hlt | hge
          · exact hlt
          · rw [List.getElem?_eq_none (by simpa using hge)] at hu; cases hu
        rw [add_zero_of, h4 j hj, ← hu]
        simp [List.getD, List.getElem?_eq_getElem hj]) ad 1 m [.int .u8 c.toNat] rfl hnews (by omega) (by unfold maxLen; omega) (by omega)
    obtain ⟨v', w', hrun, hown, hg⟩ := hr
    refine ⟨v', w', hrun, ?_, (Below.refl _ w).grown hg hB (fun k hk => by cases hk)⟩
    refine Bts.of_own (base := w.heap.size) (n := l.length + 1) ?_ hB (by simp)
    simpa using hown
/-- .. at the operation, for the walk -/
theorem wpList_append_bts {ops : Array Oper} {rest : List Oper} {o : Oper} {a : Act} {Q : Exit → Act → World → Prop} (hgd : o.guard = none) (s x : Operand) (t : TypeId)
    (ho : o.op = .call { callee := .builtin .append, args := #[s, x], argTypes := #[t, t] }) (i : TypeInfo) (ht : P.underlying t = some (.slice 5)) (hi : P.info? 5 = some i) (hz : i.zero = some (.int .u8 0)) (hs : i.size = 1) (hby : i.bytes = 1)
    (hv : a.eval s = v) (h : Bts w B v l) (hB : B ≤ w.heap.size) (c : UInt8) (y : Int) (hy : y = c.toNat) (hl : l.length + 1 ≤ 1000000) (ad : Addr) (m : Nat) (hx : a.eval x = .slice (some ad) 1 m) (hc : w.cell? ad = some (.int .u8 y))
    (hK : ∀ v' w', Bts w' B v' (l ++ [c]) → Below B w w' → wpList P ops Q rest (a.put o.dst v') w') : wpList P ops Q (o :: rest) a w := by
  refine wpList_plain hgd fun K hK' => ?_
  obtain ⟨v', w', hrun, h1, h2⟩ := run_append_bts (P := P) t o.type i ht hi hz hs hby h hB c y hy hl ad hc m
  unfold Oper.wp
  simp [execOp, ho, resolve, invoke, builtin, hv, hx, hrun, Result.andThen]
  exact hK' _ _ (hK v' w' h1 h2)
/-- what '[]byte(s)' lays -/
theorem bts_of_string (w : World) (s : ByteArray) (hc : s.size ≤ 1000000) : Bts (w.drew.alloc (.cells (bytesRow s (grownCap w s.size 0 5)) 5 ((bytesRow s (grownCap w s.size 0 5)).size, (bytesRow s (grownCap w s.size 0 5)).size + 1))) w.heap.size
    (.slice (some ⟨w.heap.size, 0, none⟩) s.size (grownCap w s.size 0 5)) s.data.toList := by
  have hge := grownCap_ge w s.size 0 5
  have hsz : (bytesRow s (grownCap w s.size 0 5)).size = grownCap w s.size 0 5 := by simp [bytesRow]; have : s.data.size = s.size := rfl; omega
  have hh : (w.drew.alloc (.cells (bytesRow s (grownCap w s.size 0 5)) 5 ((bytesRow s (grownCap w s.size 0 5)).size, (bytesRow s (grownCap w s.size 0 5)).size + 1))).heap[w.heap.size]? = some (.cells (bytesRow s (grownCap w s.size 0 5)) 5 ((bytesRow s (grownCap w s.size 0 5)).size, (bytesRow s (grownCap w s.size 0 5)).size + 1)) := heap_alloc_new w.drew _
  refine ⟨w.heap.size, grownCap w s.size 0 5, by simp, Nat.le_refl _, by simp, by simpa using hge, fun j hj => ?_, fun j hj => ?_⟩
  · rw [cell_of_row _ _ j _ _ _ hh]
    have hj' : j < s.data.size := by simpa using hj
    simp only [bytesRow]
    rw [Array.getElem?_append_left (by simpa using hj'), Array.getElem?_map, Array.getElem?_eq_getElem hj', List.getD_eq_getElem?_getD, List.getElem?_eq_getElem (by simpa using hj')]
    simp
  · rw [cell_of_row _ _ j _ _ _ hh]
    refine ⟨by rw [Array.getElem?_eq_getElem (by omega)]; rfl, ?_⟩
    generalize hW : (w.drew.alloc (.cells (bytesRow s (grownCap w s.size 0 5)) 5 ((bytesRow s (grownCap w s.size 0 5)).size, (bytesRow s (grownCap w s.size 0 5)).size + 1))) = W at hh ⊢
    unfold World.frozen?
    rw [hh]
    simp
    omega
theorem bts_string {v : Value} {l : List UInt8} (src dst : TypeId) (hs : P.underlying src = some (.slice 5)) (he : P.underlying 5 = some (.int .u8)) (hd : P.underlying dst = some .string) (h : Bts w B v l) :
    (convert src dst v).run P w = .ok (.string ⟨l.toArray⟩) w := by
  obtain ⟨g, cap, rfl, h1, h2, h3, h4, h5⟩ := h
  rw [run_convert_bytes_arg w src 5 hs he g 0 l.length cap (l.map fun c => (c.toNat : Int)) (by simp) (fun i hi => by
    rw [Nat.zero_add, h4 i hi]
    simp [List.getD, List.getElem?_eq_getElem hi]) dst hd]
  simp [strOfNums, Function.comp_def]
theorem bts_len {v : Value} {l : List UInt8} (h : Bts w B v l) : ∃ A cap, v = .slice A l.length cap := by
  obtain ⟨g, cap, rfl, _⟩ := h
  exact ⟨_, _, rfl⟩
end
end Go.Proofs.Ytpffolohkmokhaa.Hs
