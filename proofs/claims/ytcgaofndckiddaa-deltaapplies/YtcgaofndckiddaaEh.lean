/-
  Layer 9: a delta as it is made: numbers, steps (by pointer).
-/
import Derived.Test.YtcgaofndckiddaaEg
import Derived.Maps.AppendAt
namespace Go.Proofs.Ytcgaofndckiddaa.He
open Go.RowKit Hg
set_option linter.unusedVariables false

theorem own_same1 {w w' : World} {B : Nat} {v : Value} {l : List UInt8} (h : Own w B v l) (hs : ∀ k, v.ownBlock = some k → w'.heap[k]? = w.heap[k]?) : Own w' B v l := by
  obtain ⟨h1, h2⟩ := h
  refine ⟨h1, ?_⟩
  rcases h2 with ⟨rfl, h0⟩ | ⟨g, cap, cur, rfl, hb, hg, hr⟩
  · exact .inl ⟨rfl, h0⟩
  · exact .inr ⟨g, cap, cur, rfl, hb, (hs g rfl).trans hg, hr⟩
theorem own_block {w : World} {B : Nat} {v : Value} {l : List UInt8} (h : Own w B v l) {g : Nat} (hg : v.ownBlock = some g) : ∃ cur fr, w.heap[g]? = some (.cells cur 5 fr) := by
  rcases h.2 with ⟨rfl, h0⟩ | ⟨g', cap, cur, rfl, hb, hg', hr⟩
  · cases hg
  · injection hg with hg
    subst hg
    exact ⟨_, _, hg'⟩
theorem run_app_row37 {w : World} {B : Nat} {v : Value} {l : List UInt8} (h : Own w B v l) (hB : B ≤ w.heap.size) (m : List UInt8) (g : Nat) (hg : w.heap[g]? = some (.cells (m.map fun c => Value.int .u8 c.toNat).toArray 5)) (hl : l.length + m.length ≤ 100000000) (ty : TypeId) (c : Nat) :
    ∃ v' w', (Builtin.append_ #[37, 37] ty #[v, .slice (some ⟨g, 0, none⟩) m.length c]).run Try.prog w = .ok v' w' ∧ Own w' B v' (l ++ m) ∧ w.grownBy w' v.ownBlock := by
  obtain ⟨i0, hi0, hz0, hz1, hz2⟩ := info_parts Try.info5
  obtain ⟨v', w', h1, h2, h3, _⟩ := run_append_own_at (P := Try.prog) w B 37 ty 5 i0 (.int .u8 0) 1 1 Try.underlying37 hi0 hz0 hz1 hz2 rfl (by omega) v l.length _ h ⟨g, 0, none⟩ m.length c (m.map fun c => .int .u8 c.toNat) (by simp)
    (fun j u hu => by rw [add0, cell_of_cells hg]; simpa using hu) (by simp [Value.oneCell']) (by unfold maxLen; omega) (by omega) hB
  refine ⟨v', w', h1, ?_, h3⟩
  unfold Own
  rw [List.length_append, List.map_append]
  exact h2
theorem run_app_str37 {w : World} {B : Nat} {v : Value} {l : List UInt8} (h : Own w B v l) (hB : B ≤ w.heap.size) (s : ByteArray) (hl : l.length + s.size ≤ 100000000) (ty : TypeId) :
    ∃ v' w', (Builtin.append_ #[37, 9] ty #[v, .string s]).run Try.prog w = .ok v' w' ∧ Own w' B v' (l ++ bl s) ∧ w.grownBy w' v.ownBlock := by
  obtain ⟨i0, hi0, hz0, hz1, hz2⟩ := info_parts Try.info5
  obtain ⟨v', w', h1, h2, h3, _⟩ := Lib.run_append_own_string (P := Try.prog) w B 37 9 ty 5 i0 Try.underlying37 Try.underlying9 hi0 hz0 hz1 hz2 v l.length _ h s (by unfold maxLen; omega) (by omega) hB
  refine ⟨v', w', h1, ?_, h3⟩
  unfold Own
  rw [List.length_append, List.map_append, bl_length]
  exact h2

/-- a delta so far, in block b; its bytes lie in a block of their own -/
structure StAt (w : World) (B b : Nat) (A : Option Addr) (c : Nat) (o : List UInt8) : Prop where
  hb : B ≤ b
  at_ : w.heap[b]? = some (.cells #[.slice A o.length c] 37 (0, 0))
  own : Own w B (.slice A o.length c) o
section
variable {w w' : World} {B b : Nat} {A : Option Addr} {c : Nat} {o o' : List UInt8}
theorem StAt.lt (h : StAt w B b A c o) : b < w.heap.size := (Array.getElem?_eq_some_iff.1 h.at_).1
theorem StAt.c0 (h : StAt w B b A c o) : w.cell? ⟨b, 0, none⟩ = some (.slice A o.length c) := cell_of_cells h.at_ 0
theorem StAt.ne_b (h : StAt w B b A c o) : (Value.slice A o.length c).ownBlock ≠ some b := fun e => by
  obtain ⟨cur, fr, h1⟩ := own_block h.own e
  have := h1.symm.trans h.at_
  injection this with this
  injection this with _ h2
  exact absurd h2 (by decide)
theorem StAt.below (h : StAt w B b A c o) (hb : Below w.heap.size w w') : StAt w' B b A c o := ⟨h.hb, (hb.block b h.lt).trans h.at_, h.own.below hb⟩
theorem StAt.app {v' : Value} (h : StAt w B b A c o) (ho : Own w' B v' o') (hg : w.grownBy w' (Value.slice A o.length c).ownBlock) :
    ∃ A' c', v' = .slice A' o'.length c' ∧ w'.cell? ⟨b, 0, none⟩ = some (.slice A o.length c) ∧ w'.frozen? ⟨b, 0, none⟩ = false ∧ StAt (w'.setCell ⟨b, 0, none⟩ v') B b A' c' o' ∧ Below B w (w'.setCell ⟨b, 0, none⟩ v') := by
  obtain ⟨A', c', rfl⟩ := ho.slice
  have hat : w'.heap[b]? = some (.cells #[.slice A o.length c] 37 (0, 0)) := (hg.block b h.lt (fun e => h.ne_b e.symm)).trans h.at_
  have hnb : (Value.slice A' o'.length c').ownBlock ≠ some b := fun e => by
    obtain ⟨cur, fr, h1⟩ := own_block ho e
    have := h1.symm.trans hat
    injection this with this
    injection this with _ h2
    exact absurd h2 (by decide)
  refine ⟨A', c', rfl, by rw [cell_of_cells hat]; rfl, unfrozen_of_cells hat 0, ⟨h.hb, by rw [heap_setCell_cells hat]; rfl, own_same1 ho (fun k hk => Below.heap_setCell _ _ _ _ (fun e => hnb (by rw [hk, e])))⟩, ?_⟩
  exact ((Below.refl B w).grown hg (Nat.le_trans h.hb (Nat.le_of_lt h.lt)) (fun k hk => (World.ownsRow.lt h.own k hk).1)).setCell h.hb _
theorem st_row (h : StAt w B b A c o) (l : List UInt8) (g c' : Nat) (hg : w.heap[g]? = some (.cells (l.map fun c => Value.int .u8 c.toNat).toArray 5)) (hl : o.length + l.length ≤ 100000000) (ty : TypeId) :
    ∃ A' k' w', (Builtin.append_ #[37, 37] ty #[.slice A o.length c, .slice (some ⟨g, 0, none⟩) l.length c']).run Try.prog w = .ok (.slice A' (o ++ l).length k') w' ∧ w'.cell? ⟨b, 0, none⟩ = some (.slice A o.length c) ∧ w'.frozen? ⟨b, 0, none⟩ = false ∧
      StAt (w'.setCell ⟨b, 0, none⟩ (.slice A' (o ++ l).length k')) B b A' k' (o ++ l) ∧ Below B w (w'.setCell ⟨b, 0, none⟩ (.slice A' (o ++ l).length k')) := by
  obtain ⟨v', w', hr, ho, hgr⟩ := run_app_row37 h.own (Nat.le_trans h.hb (Nat.le_of_lt h.lt)) l g hg hl ty c'
  obtain ⟨A', k', rfl, h1, h2, h3, h4⟩ := h.app ho hgr
  exact ⟨A', k', w', hr, h1, h2, h3, h4⟩
theorem st_str (h : StAt w B b A c o) (x : ByteArray) (hl : o.length + x.size ≤ 100000000) (ty : TypeId) :
    ∃ A' k' w', (Builtin.append_ #[37, 9] ty #[.slice A o.length c, .string x]).run Try.prog w = .ok (.slice A' (o ++ bl x).length k') w' ∧ w'.cell? ⟨b, 0, none⟩ = some (.slice A o.length c) ∧ w'.frozen? ⟨b, 0, none⟩ = false ∧
      StAt (w'.setCell ⟨b, 0, none⟩ (.slice A' (o ++ bl x).length k')) B b A' k' (o ++ bl x) ∧ Below B w (w'.setCell ⟨b, 0, none⟩ (.slice A' (o ++ bl x).length k')) := by
  obtain ⟨v', w', hr, ho, hgr⟩ := run_app_str37 h.own (Nat.le_trans h.hb (Nat.le_of_lt h.lt)) x hl ty
  obtain ⟨A', k', rfl, h1, h2, h3, h4⟩ := h.app ho hgr
  exact ⟨A', k', w', hr, h1, h2, h3, h4⟩
theorem wpList_st_row {ops : Array Oper} {rest : List Oper} {p : Oper} {a : Act} {Q : Exit → Act → World → Prop} (hgd : p.guard = none) (sl x : Operand)
    (ho : p.op = .call { callee := .builtin .append, args := #[sl, x], argTypes := #[37, 37] }) (N : Nat) (hN : N = o.length) (hs : a.eval sl = .slice A N c) (h : StAt w B b A c o) (l : List UInt8) (g c' nn : Nat) (hnn : nn = l.length) (hx : a.eval x = .slice (some ⟨g, 0, none⟩) nn c')
    (hg : w.heap[g]? = some (.cells (l.map fun c => Value.int .u8 c.toNat).toArray 5)) (hl : o.length + l.length ≤ 100000000)
    (hK : ∀ A' k' M w', M = (o ++ l).length → w'.cell? ⟨b, 0, none⟩ = some (.slice A N c) → w'.frozen? ⟨b, 0, none⟩ = false → StAt (w'.setCell ⟨b, 0, none⟩ (.slice A' M k')) B b A' k' (o ++ l) ∧ Below B w (w'.setCell ⟨b, 0, none⟩ (.slice A' M k')) →
      wpList Try.prog ops Q rest (a.put p.dst (.slice A' M k')) w') : wpList Try.prog ops Q (p :: rest) a w := by
  subst hnn hN
  refine wpList_plain hgd fun K hK' => ?_
  obtain ⟨A', k', w', hr, h1, h2, h3, h4⟩ := st_row h l g c' hg hl p.type
  unfold Oper.wp execOp
  simp only [ho, resolve, invoke, builtin, Sem.run_bind, Sem.run_pure, Result.andThen_ok, List.map_toArray, List.map_cons, List.map_nil, hs, hx, hr]
  exact hK' _ _ (hK A' k' _ w' rfl h1 h2 ⟨h3, h4⟩)
theorem wpList_st_str {ops : Array Oper} {rest : List Oper} {p : Oper} {a : Act} {Q : Exit → Act → World → Prop} (hgd : p.guard = none) (sl x : Operand)
    (ho : p.op = .call { callee := .builtin .append, args := #[sl, x], argTypes := #[37, 9] }) (N : Nat) (hN : N = o.length) (hs : a.eval sl = .slice A N c) (h : StAt w B b A c o) (z : ByteArray) (hx : a.eval x = .string z) (hl : o.length + z.size ≤ 100000000)
    (hK : ∀ A' k' M w', M = (o ++ bl z).length → w'.cell? ⟨b, 0, none⟩ = some (.slice A N c) → w'.frozen? ⟨b, 0, none⟩ = false → StAt (w'.setCell ⟨b, 0, none⟩ (.slice A' M k')) B b A' k' (o ++ bl z) ∧ Below B w (w'.setCell ⟨b, 0, none⟩ (.slice A' M k')) →
      wpList Try.prog ops Q rest (a.put p.dst (.slice A' M k')) w') : wpList Try.prog ops Q (p :: rest) a w := by
  subst hN
  refine wpList_plain hgd fun K hK' => ?_
  obtain ⟨A', k', w', hr, h1, h2, h3, h4⟩ := st_str h z hl p.type
  unfold Oper.wp execOp
  simp only [ho, resolve, invoke, builtin, Sem.run_bind, Sem.run_pure, Result.andThen_ok, List.map_toArray, List.map_cons, List.map_nil, hs, hx, hr]
  exact hK' _ _ (hK A' k' _ w' rfl h1 h2 ⟨h3, h4⟩)
end
/-- a delta so far -/
def St (w : World) (B b : Nat) (o : List UInt8) : Prop := ∃ A c, StAt w B b A c o

theorem u8m {n m : Nat} (h : m < 256) (e : n % 256 = m) : IntKind.u8.wrap (n : Int) = ((UInt8.ofNat m).toNat : Int) := by
  rw [Sq.u8 h]
  simp [IntKind.wrap, IntKind.bits, IntKind.signed]
  omega

set_option maxHeartbeats 2000000 in
set_option maxRecDepth 100000 in
theorem add_any (w : World) (B b : Nat) (o : List UInt8) (h : St w B b o) (n : Nat) (hn : n < 4294967296) (hl : o.length ≤ 1000000) :
    Calls Try.prog 25 #[.pointer (some ⟨b, 0, none⟩), .int .i64 n] w fun r w' => r = .returned (.tuple #[]) ∧ St w' B b (o ++ Df.num4 n) ∧ Below B w w' := by
  obtain ⟨A, c, hp⟩ := h
  have c0 := hp.c0
  have HP := Lib.hid hp
  clear hp
  have hBw : B ≤ w.heap.size := Nat.le_trans HP.out.hb (Nat.le_of_lt HP.out.lt)
  obtain ⟨ol, hol⟩ : ∃ ol, o.length = ol := ⟨_, rfl⟩
  rw [hol] at c0
  have hol2 : ol ≤ 1000000 := by omega
  have HOL := Lib.hid hol
  have e1 : (UInt8.ofNat (n / 16777216)).toNat = n / 16777216 := Sq.u8 (by omega)
  have e2 : (UInt8.ofNat (n / 65536 % 256)).toNat = n / 65536 % 256 := Sq.u8 (by omega)
  have e3 : (UInt8.ofNat (n / 256 % 256)).toNat = n / 256 % 256 := Sq.u8 (by omega)
  have e4 : (UInt8.ofNat (n % 256)).toNat = n % 256 := Sq.u8 (by omega)
  have d1 : (n : Int) / 16777216 = ((UInt8.ofNat (n / 16777216)).toNat : Int) := by rw [e1]; omega
  have d2 : (n : Int) / 65536 % 256 = ((UInt8.ofNat (n / 65536 % 256)).toNat : Int) := by rw [e2]; omega
  have d3 : (n : Int) / 256 % 256 = ((UInt8.ofNat (n / 256 % 256)).toNat : Int) := by rw [e3]; omega
  have d4 : (n : Int) % 256 = ((UInt8.ofNat (n % 256)).toNat : Int) := by rw [e4]; omega
  have b1 : (n : Int) / 16777216 < 256 := by omega
  unfold Df.num4
  clear hol hl e1 e2 e3 e4
  generalize UInt8.ofNat (n / 16777216) = x1 at *
  generalize UInt8.ofNat (n / 65536 % 256) = x2 at *
  generalize UInt8.ofNat (n / 256 % 256) = x3 at *
  generalize UInt8.ofNat (n % 256) = x4 at *
  go_enter Try.func25, Try.ntmps25
  go_wp2_with (at_builtin; refine wpList_st_row rfl (.tmp 7) (.tmp 19) rfl ol HOL.out.symm rfl (HP.out.below ((Below.refl w.heap.size w).alloc (Nat.le_refl _) _)) [x1, x2, x3, x4] w.heap.size 4 4 rfl rfl (heap_alloc_new w _) (by rw [HOL.out]; simp; omega) ?_; intro A' k' M w2 hM c4 f4 hp2; have HP2 := Lib.hid (And.intro hp2.1 (((Below.refl B w).alloc hBw _).trans hp2.2)); clear hM hp2)
  go_end0
  exact ⟨rfl, ⟨A', k', HP2.out.1⟩, HP2.out.2⟩
end Go.Proofs.Ytcgaofndckiddaa.He
