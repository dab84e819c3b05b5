/-
  The program's files: a look-up, a store, a removal; an effect is done (layer 7).
-/
import Derived.Test.YtdgfbpkpfmdjjaaKa
import Derived.Test.YtdgfbpkpfmdjjaaTu
namespace Go.Proofs.Ytdgfbpkpfmdjjaa.Hk
open Go.RowKit Hr Hw Ht
set_option linter.unusedVariables false

abbrev mapT : TypeId := 70
theorem zeroFile (w : World) : (zeroValue 84).run Try.prog w = .ok (.agg #[.string ByteArray.empty]) w := by kernel_rfl
theorem file_zero : fileElem (.agg #[.string ByteArray.empty]) = some (el ByteArray.empty, []) := fileElem_mk (by decide)
section
variable (w : World) {ops : Array Oper} {rest : List Oper} {o : Oper} {a : Go.Act} {Q : Exit → Go.Act → World → Prop}
theorem wpList_look_some (hg : o.guard = none) (m x : Operand) (hop : o.op = Op.lookup 70 m x true) (mb : Nat) (l : List Fl) (hm : a.eval m = .map (some mb)) (h : MapAt w mb l) (p t : ByteArray) (hx : a.eval x = .string p) (hp : p.size ≤ maxLen)
    (hf : findF l p = some t) (hK : t.size ≤ maxLen → wpList Try.prog ops Q rest (a.put o.dst (.tuple #[.agg #[.string t], .bool true])) w) : wpList Try.prog ops Q (o :: rest) a w := by
  refine wpList_lookup_own_ok w hg m x 70 hop 9 84 klaw Try.underlying70 fileElem (zeroFile w) (el ByteArray.empty) [] file_zero mb _ (toD l) hm h _ _ hx (pk_key hp) (fun v ps hv => ?_)
  rw [at_toD, hf] at hv
  obtain ⟨s, rfl, e, hs⟩ := fileElem_inv hv
  simp only [Prod.mk.injEq] at e
  obtain rfl := el_inj e.1
  rw [has_toD, hf]
  exact hK hs
theorem wpList_look_none (hg : o.guard = none) (m x : Operand) (hop : o.op = Op.lookup 70 m x true) (mb : Nat) (l : List Fl) (hm : a.eval m = .map (some mb)) (h : MapAt w mb l) (p : ByteArray) (hx : a.eval x = .string p) (hp : p.size ≤ maxLen)
    (hf : findF l p = none) (hK : wpList Try.prog ops Q rest (a.put o.dst (.tuple #[.agg #[.string ByteArray.empty], .bool false])) w) : wpList Try.prog ops Q (o :: rest) a w := by
  refine wpList_lookup_own_ok w hg m x 70 hop 9 84 klaw Try.underlying70 fileElem (zeroFile w) (el ByteArray.empty) [] file_zero mb _ (toD l) hm h _ _ hx (pk_key hp) (fun v ps hv => ?_)
  rw [at_toD, hf] at hv
  obtain ⟨s, rfl, e, hs⟩ := fileElem_inv hv
  simp only [Prod.mk.injEq] at e
  obtain rfl := el_inj e.1
  rw [has_toD, hf]
  exact hK
theorem wpList_put_file (hg : o.guard = none) (m x v : Operand) (hop : o.op = Op.mapUpdate 70 m x v) (mb : Nat) (l : List Fl) (hm : a.eval m = .map (some mb)) (h : MapAt w mb l) (hl : l.length < 1000000) (p t : ByteArray) (hx : a.eval x = .string p) (hv : a.eval v = .agg #[.string t]) (hp : p.size ≤ maxLen) (ht : t.size ≤ maxLen)
    (hK : ∀ w', MapAt w' mb (withF l (p, t)) → w.grownBy w' (some mb) → wpList Try.prog ops Q rest (a.put o.dst undef) w') : wpList Try.prog ops Q (o :: rest) a w :=
  wpList_mapUpdate_own w hg m x v 70 hop 9 84 klaw Try.underlying70 fileElem mb _ (toD l) hm h (by unfold maxLen; omega) _ _ _ hx hv (pk_key hp) (el t) [] (fileElem_mk ht) (fun w' ho hgr => hK w' (mapAt_of (by have := put_toD l (p, t); rw [← this]; exact ho)) hgr)
theorem wpList_del_file (hg : o.guard = none) (m x : Operand) (hop : o.op = Op.call { callee := Callee.builtin Builtin.delete, args := #[m, x], argTypes := #[70, 9] }) (mb : Nat) (l : List Fl) (hm : a.eval m = .map (some mb)) (h : MapAt w mb l) (p : ByteArray) (hx : a.eval x = .string p) (hp : p.size ≤ maxLen)
    (hK : ∀ w', MapAt w' mb (withoutF l p) → w.grownBy w' (some mb) → wpList Try.prog ops Q rest (a.put o.dst (.tuple #[])) w') : wpList Try.prog ops Q (o :: rest) a w :=
  wpList_delete_own w hg m x 70 9 hop 84 klaw Try.underlying70 fileElem mb _ (toD l) hm h _ _ hx (pk_key hp) (fun w' ho ht => hK w' (mapAt_of (by rw [← del_toD]; exact ho)) ht.grown)
theorem wpList_len_file (hg : o.guard = none) (m : Operand) (hop : o.op = Op.call { callee := Callee.builtin Builtin.len, args := #[m], argTypes := #[70] }) (mb : Nat) (l : List Fl) (hm : a.eval m = .map (some mb)) (h : MapAt w mb l)
    (hK : wpList Try.prog ops Q rest (a.put o.dst (.int .i64 l.length)) w) : wpList Try.prog ops Q (o :: rest) a w :=
  wpList_len_own w hg m 70 hop 9 84 Try.underlying70 fileElem mb _ (toD l) hm h (by rw [size_toD]; exact hK)
end

theorem two_blocks {w w3 : World} {m : Nat} {O1 O2 : Obj} (hm : m < w.heap.size) (hg : ((w.alloc O1).alloc O2).grownBy w3 (some m)) : w3.heap[w.heap.size]? = some O1 ∧ w3.heap[w.heap.size + 1]? = some O2 := by
  constructor
  · refine (hg.block _ (by simp; omega) (by simp; omega)).trans ?_
    refine (Below.heap_alloc _ _ _ (by simp)).trans ?_
    exact heap_alloc_new w O1
  · refine (hg.block _ (by simp) (by simp; omega)).trans ?_
    have := heap_alloc_new (w.alloc O1) O2
    rwa [World.size_alloc] at this

/-! ### effects -/
def kd (e : Ef) : Int := if e.1 = 1 then 0 else if e.1 = 2 then 1 else 2
def toS (e : Ef) : ByteArray := if e.1 = 2 then e.2.2 else ByteArray.empty
def teS (e : Ef) : ByteArray := if e.1 = 1 then e.2.2 else ByteArray.empty
def gcells (e : Ef) : List Value := [.int .i64 (kd e), .string e.2.1, .string (toS e), .string (teS e)]
theorem gcells_len (e : Ef) : (gcells e).length = 4 := rfl
theorem gcells_one (e : Ef) (u : Value) (h : u ∈ gcells e) : u.oneCell' = true := by
  simp [gcells] at h
  rcases h with rfl | rfl | rfl | rfl <;> rfl
/-- an effect's texts are no longer than texts can be -/
def EfOk (e : Ef) : Prop := e.2.1.size ≤ maxLen ∧ e.2.2.size ≤ maxLen
def efV (e : Ef) : Value := .agg #[.int .i64 (kd e), .string e.2.1, .string (toS e), .string (teS e)]

set_option maxHeartbeats 2000000 in
set_option maxRecDepth 100000 in
theorem edo_any (w : World) (m : Nat) (l : List Fl) (e : Ef) (h : MapAt w m l) (hl : l.length < 1000000) (he : EfOk e) :
    Calls Try.prog 38 #[efV e, .map (some m)] w fun r w' => r = .returned (.tuple #[]) ∧ MapAt w' m (doneF l e) ∧ Turns [m] [m] w w' := by
  obtain ⟨k, p, t⟩ := e
  obtain ⟨hp, ht⟩ := he
  simp only at hp ht
  have ht0 : ∀ o, Turns [m] [m] w (w.alloc o) := fun o => (Turns.refl [m] w).alloc o
  have HT0 := Lib.hid ht0
  have hm := h.lt
  unfold efV
  by_cases h1 : k = 1
  · subst h1
    have e1 : kd (1, p, t) = 0 := rfl
    have e2 : toS (1, p, t) = ByteArray.empty := rfl
    have e3 : teS (1, p, t) = t := rfl
    have e4 : doneF l (1, p, t) = withF l (p, t) := rfl
    rw [e1, e2, e3, e4]
    clear e1 e2 e3 e4 ht0
    have HM := Lib.hid h
    clear h
    go_enter Try.func38, Try.ntmps38
    go_wp2_with (at_mapUpdate; refine wpList_put_file _ rfl _ _ _ rfl m l rfl (HM.out.alloc _) hl p t rfl rfl hp ht ?_; intro w3 hm3 hg3)
    go_end0
    exact ⟨rfl, hm3, (HT0.out _).grown hg3 (fun j hj => by injection hj with hj; subst hj; simp)⟩
  · by_cases h2 : k = 2
    · subst h2
      have e1 : kd (2, p, t) = 1 := rfl
      have e2 : toS (2, p, t) = t := rfl
      have e3 : teS (2, p, t) = ByteArray.empty := rfl
      rw [e1, e2, e3]
      have HM := Lib.hid h
      cases hf : findF l p with
      | none =>
        have e4 : doneF l (2, p, t) = l := by simp [doneF, hf]
        rw [e4]
        clear e1 e2 e3 e4 ht0 h
        go_enter Try.func38, Try.ntmps38
        go_wp2_with (at_lookup; refine wpList_look_none _ rfl _ _ rfl m l rfl (HM.out.alloc _) p rfl hp hf ?_)
        go_end0
        exact ⟨rfl, (HM.out.alloc _).alloc _, (HT0.out _).alloc _⟩
      | some u =>
        have e4 : doneF l (2, p, t) = withF (withoutF l p) (t, u) := by simp [doneF, hf]
        rw [e4]
        have hlw := withoutF_len l p
        clear e1 e2 e3 e4 ht0 h
        go_enter Try.func38, Try.ntmps38
        have HW := Lib.hid hlw
        clear hlw
        go_wp2_with (first
          | (at_lookup; refine wpList_look_some _ rfl _ _ rfl m l rfl (HM.out.alloc _) p u rfl hp hf ?_; intro hu)
          | (at_delete; refine wpList_del_file _ rfl _ _ rfl m l rfl ((HM.out.alloc _).alloc _) p rfl hp ?_; intro w3 hm3 hg3; have hb3 := two_blocks hm hg3; have c1 : w3.cell? ⟨w.heap.size, 2, none⟩ = some (.string t) := (by rw [cell_of_cells hb3.1]; rfl); have c2 : w3.cell? ⟨w.heap.size + 1, 0, none⟩ = some (.string u) := (by rw [cell_of_cells hb3.2]; rfl); have HM3 := Lib.hid (And.intro hm3 hg3); clear hb3 hm3 hg3)
          | (at_mapUpdate; refine wpList_put_file _ rfl _ _ _ rfl m (withoutF l p) rfl HM3.out.1 (Nat.lt_of_le_of_lt HW.out hl) t u rfl rfl ht hu ?_; intro w4 hm4 hg4))
        go_end0
        exact ⟨rfl, hm4, (((HT0.out _).alloc _).grown HM3.out.2 (fun j hj => by injection hj with hj; subst hj; simp)).grown hg4 (fun j hj => by injection hj with hj; subst hj; simp)⟩
    · have e1 : kd (k, p, t) = 2 := by simp [kd, h1, h2]
      have e2 : toS (k, p, t) = ByteArray.empty := by simp [toS, h2]
      have e3 : teS (k, p, t) = ByteArray.empty := by simp [teS, h1]
      have e4 : doneF l (k, p, t) = withoutF l p := by simp [doneF, h1, h2]
      rw [e1, e2, e3, e4]
      clear e1 e2 e3 e4 ht0
      have HM := Lib.hid h
      clear h
      go_enter Try.func38, Try.ntmps38
      go_wp2_with (at_delete; refine wpList_del_file _ rfl _ _ rfl m l rfl (HM.out.alloc _) p rfl hp ?_; intro w3 hm3 hg3)
      go_end0
      exact ⟨rfl, hm3, (HT0.out _).grown hg3 (fun j hj => by injection hj with hj; subst hj; simp)⟩
end Go.Proofs.Ytdgfbpkpfmdjjaa.Hk
