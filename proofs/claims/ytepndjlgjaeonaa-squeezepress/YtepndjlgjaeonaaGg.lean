/-
  What the program's Press keeps, in memory; the key at a place (layer 8).
-/
import Derived.Test.YtepndjlgjaeonaaGk
import Derived.Test.YtepndjlgjaeonaaGf
import Derived.Deep.DeepCutAuto
import Derived.BigQuiet
import Derived.Laws.Rows
import Derived.Laws.ResultCell
import Derived.StillTailTactics
namespace Go.Proofs.Ytepndjlgjaeonaa.Hg
open Go.RowKit Hw
set_option linter.unusedVariables false

theorem own_same1 {w w' : World} {B : Nat} {v : Value} {l : List UInt8} (h : Own w B v l) (hs : ∀ k, v.ownBlock = some k → w'.heap[k]? = w.heap[k]?) : Own w' B v l := by
  obtain ⟨h1, h2⟩ := h
  refine ⟨h1, ?_⟩
  rcases h2 with ⟨rfl, h0⟩ | ⟨g, cap, cur, rfl, hb, hg, hr⟩
  · exact .inl ⟨rfl, h0⟩
  · exact .inr ⟨g, cap, cur, rfl, hb, (hs g rfl).trans hg, hr⟩
/-- the block of one's own holds bytes -/
theorem own_block {w : World} {B : Nat} {v : Value} {l : List UInt8} (h : Own w B v l) {g : Nat} (hg : v.ownBlock = some g) : ∃ cur fr, w.heap[g]? = some (.cells cur 5 fr) := by
  rcases h.2 with ⟨rfl, h0⟩ | ⟨g', cap, cur, rfl, hb, hg', hr⟩
  · cases hg
  · injection hg with hg
    subst hg
    exact ⟨_, _, hg'⟩
theorem run_app_str2 {w : World} {B : Nat} {v : Value} {l : List UInt8} (h : Own w B v l) (hB : B ≤ w.heap.size) (s : ByteArray) (hl : l.length + s.size ≤ 100000000) (ty : TypeId) :
    ∃ v' w', (Builtin.append_ #[33, 9] ty #[v, .string s]).run Try.prog w = .ok v' w' ∧ Own w' B v' (l ++ bl s) ∧ w.grownBy w' v.ownBlock := by
  obtain ⟨i0, hi0, hz0, hz1, hz2⟩ := info_parts Try.info5
  obtain ⟨v', w', h1, h2, h3, _⟩ := Lib.run_append_own_string (P := Try.prog) w B 33 9 ty 5 i0 Try.underlying33 Try.underlying9 hi0 hz0 hz1 hz2 v l.length _ h s (by unfold maxLen; omega) (by omega) hB
  refine ⟨v', w', h1, ?_, h3⟩
  unfold Own
  rw [List.length_append, List.map_append, bl_length]
  exact h2
theorem run_app_row2 {w : World} {B : Nat} {v : Value} {l : List UInt8} (h : Own w B v l) (hB : B ≤ w.heap.size) (m : List UInt8) (g : Nat) (hg : w.heap[g]? = some (.cells (m.map fun c => Value.int .u8 c.toNat).toArray 5)) (hl : l.length + m.length ≤ 100000000) (ty : TypeId) (c : Nat) :
    ∃ v' w', (Builtin.append_ #[33, 33] ty #[v, .slice (some ⟨g, 0, none⟩) m.length c]).run Try.prog w = .ok v' w' ∧ Own w' B v' (l ++ m) ∧ w.grownBy w' v.ownBlock := by
  obtain ⟨i0, hi0, hz0, hz1, hz2⟩ := info_parts Try.info5
  obtain ⟨v', w', h1, h2, h3, _⟩ := run_append_own_at (P := Try.prog) w B 33 ty 5 i0 (.int .u8 0) 1 1 Try.underlying33 hi0 hz0 hz1 hz2 rfl (by omega) v l.length _ h ⟨g, 0, none⟩ m.length c (m.map fun c => .int .u8 c.toNat) (by simp)
    (fun j u hu => by rw [add0, cell_of_cells hg]; simpa using hu) (by simp [Value.oneCell']) (by unfold maxLen; omega) (by omega) hB
  refine ⟨v', w', h1, ?_, h3⟩
  unfold Own
  rw [List.length_append, List.map_append]
  exact h2

abbrev mapOf (w : World) (m n : Nat) (D : DataW Unit) : Prop := w.ownsMap (H := Unit) Try.prog 52 (plainElem Try.prog 3) m n D
/-- a text that is pressed, in block b; where bytes stood last: block m; what was told lies in a block of its own -/
structure PrAt (w : World) (B b m : Nat) (s : ByteArray) (n : Nat) (D : DataW Unit) (A : Option Addr) (c : Nat) (o : List UInt8) : Prop where
  hb : B ≤ b
  hm : B ≤ m
  at_ : w.heap[b]? = some (.cells #[.string s, .map (some m), .slice A o.length c] 39 (0, 0))
  own : Own w B (.slice A o.length c) o
  map : mapOf w m n D
section
variable {w w' : World} {B b m n : Nat} {s : ByteArray} {D D' : DataW Unit} {A : Option Addr} {c : Nat} {o o' : List UInt8}
theorem PrAt.lt (h : PrAt w B b m s n D A c o) : b < w.heap.size := (Array.getElem?_eq_some_iff.1 h.at_).1
theorem PrAt.c0 (h : PrAt w B b m s n D A c o) : w.cell? ⟨b, 0, none⟩ = some (.string s) := cell_of_cells h.at_ 0
theorem PrAt.c1 (h : PrAt w B b m s n D A c o) : w.cell? ⟨b, 1, none⟩ = some (.map (some m)) := cell_of_cells h.at_ 1
theorem PrAt.c2 (h : PrAt w B b m s n D A c o) : w.cell? ⟨b, 2, none⟩ = some (.slice A o.length c) := cell_of_cells h.at_ 2
theorem PrAt.ne_b (h : PrAt w B b m s n D A c o) : (Value.slice A o.length c).ownBlock ≠ some b := fun e => by
  obtain ⟨cur, fr, h1⟩ := own_block h.own e
  have := h1.symm.trans h.at_
  injection this with this
  injection this with _ h2
  exact absurd h2 (by decide)
theorem PrAt.ne_m (h : PrAt w B b m s n D A c o) : (Value.slice A o.length c).ownBlock ≠ some m := fun e => by
  obtain ⟨cur, fr, h1⟩ := own_block h.own e
  obtain ⟨es, cl, h2, _⟩ := h.map
  have := h1.symm.trans h2
  injection this with this
  cases this
theorem PrAt.bm (h : PrAt w B b m s n D A c o) : b ≠ m := fun e => by
  obtain ⟨es, cl, h2, _⟩ := h.map
  have h1 := h.at_
  rw [e] at h1
  have := h1.symm.trans h2
  injection this with this
  cases this
theorem map_same (h : mapOf w m n D) (hs : w'.heap[m]? = w.heap[m]?) : mapOf w' m n D := by
  obtain ⟨es, cl, hb, r⟩ := h
  exact ⟨es, cl, hs.trans hb, r⟩
theorem PrAt.below (h : PrAt w B b m s n D A c o) (hb : Below w.heap.size w w') : PrAt w' B b m s n D A c o :=
  ⟨h.hb, h.hm, (hb.block b h.lt).trans h.at_, h.own.below hb, map_same h.map (hb.block m h.map.lt)⟩
theorem PrAt.drew (h : PrAt w B b m s n D A c o) : PrAt w.drew B b m s n D A c o := h.below (Below.refl _ w).drew
/-- what was told has grown -/
theorem PrAt.app {v' : Value} (h : PrAt w B b m s n D A c o) (ho : Own w' B v' o') (hg : w.grownBy w' (Value.slice A o.length c).ownBlock) :
    ∃ A' c', v' = .slice A' o'.length c' ∧ w'.cell? ⟨b, 2, none⟩ = some (.slice A o.length c) ∧ w'.frozen? ⟨b, 2, none⟩ = false ∧ PrAt (w'.setCell ⟨b, 2, none⟩ v') B b m s n D A' c' o' ∧ Below B w (w'.setCell ⟨b, 2, none⟩ v') := by
  obtain ⟨A', c', rfl⟩ := ho.slice
  have hat : w'.heap[b]? = some (.cells #[.string s, .map (some m), .slice A o.length c] 39 (0, 0)) := (hg.block b h.lt (fun e => h.ne_b e.symm)).trans h.at_
  have hmp : mapOf w' m n D := map_same h.map (hg.block m h.map.lt (fun e => h.ne_m e.symm))
  have hnb : (Value.slice A' o'.length c').ownBlock ≠ some b := fun e => by
    obtain ⟨cur, fr, h1⟩ := own_block ho e
    have := h1.symm.trans hat
    injection this with this
    injection this with _ h2
    exact absurd h2 (by decide)
  refine ⟨A', c', rfl, by rw [cell_of_cells hat]; rfl, unfrozen_of_cells hat 2, ⟨h.hb, h.hm, by rw [heap_setCell_cells hat]; rfl, own_same1 ho (fun k hk => Below.heap_setCell _ _ _ _ (fun e => hnb (by rw [hk, e]))), map_same hmp (Below.heap_setCell _ _ _ _ (Ne.symm h.bm))⟩, ?_⟩
  exact ((Below.refl B w).grown hg (Nat.le_trans h.hb (Nat.le_of_lt h.lt)) (fun k hk => by
    rcases h.own.2 with ⟨e, _⟩ | ⟨g, cap, cur, e, hbg, _⟩
    · rw [e] at hk; cases hk
    · rw [e] at hk
      have hk2 : g = k := by simpa [Value.ownBlock] using hk
      omega)).setCell h.hb _
/-- the map has turned -/
theorem PrAt.turned {n' : Nat} (h : PrAt w B b m s n D A c o) (hm : mapOf w' m n' D') (hg : w.grownBy w' (some m)) : PrAt w' B b m s n' D' A c o ∧ Below B w w' := by
  refine ⟨⟨h.hb, h.hm, (hg.block b h.lt (fun e => h.bm (by injection e))).trans h.at_, own_same1 h.own (fun k hk => ?_), hm⟩, (Below.refl B w).grown hg (Nat.le_trans h.hb (Nat.le_of_lt h.lt)) (fun k hk => by injection hk with hk; have := h.hm; omega)⟩
  have hk2 : k < w.heap.size := by
    obtain ⟨cur, fr, h1⟩ := own_block h.own hk
    exact (Array.getElem?_eq_some_iff.1 h1).1
  exact hg.block k hk2 (fun e => h.ne_m (by rw [hk, e]))
end

/-! ### the key at a place -/
def z4 : Obj := .cells #[.int .u8 0, .int .u8 0, .int .u8 0, .int .u8 0] 52
def kv (s : ByteArray) (k : Nat) : Value := .agg #[bv ((bl s).getD k 0), bv ((bl s).getD (k + 1) 0), bv ((bl s).getD (k + 2) 0), bv ((bl s).getD (k + 3) 0)]
def ks (s : ByteArray) (k : Nat) : List UInt8 := [(bl s).getD k 0, (bl s).getD (k + 1) 0, (bl s).getD (k + 2) 0, (bl s).getD (k + 3) 0]
theorem key_kv (s : ByteArray) (k : Nat) : keyOf Try.prog 52 (kv s k) = some (.string (ks s k)) := key_of _ _ _ _

theorem ret_key (w : World) (g : Nat) (x0 x1 x2 x3 : Value) (t : Bool) (tmps : Array Value) (h4 : tmps.getD 4 undef = .pointer (some ⟨g, 0, none⟩)) (h5 : tmps.getD 5 undef = .bool t) (hg : w.heap[g]? = some (.cells #[x0, x1, x2, x3] 52 (0, 0))) :
    (results Try.f20 tmps).run Try.prog w = .ok (.tuple #[.agg #[x0, x1, x2, x3], .bool t]) w := by
  rw [results_cell_tmp Try.results20, h4, h5]
  have e := run_loadVar_row w g 52 52 #[x0, x1, x2, x3] (0, 0) _ hg Try.underlying52 rfl (by kernel_rfl)
  simp [asAddr, e, Result.andThen]

set_option maxHeartbeats 1000000 in
set_option maxRecDepth 100000 in
theorem keyNo_any (w : World) (B b m : Nat) (s : ByteArray) (n : Nat) (D : DataW Unit) (A : Option Addr) (c : Nat) (o : List UInt8) (h : PrAt w B b m s n D A c o) (k : Int) (hk : k < 0 ∨ (s.size : Int) - k < 4) (h1 : -100000000 ≤ k) (h2 : k ≤ 100000000) (hs : s.size ≤ 100000000) :
    Calls Try.prog 20 #[.pointer (some ⟨b, 0, none⟩), .int .i64 k] w fun r w' => r = .returned (.tuple #[.agg #[.int .u8 0, .int .u8 0, .int .u8 0, .int .u8 0], .bool false]) ∧ Below w.heap.size w w' := by
  have c0 := h.c0
  have hlt := h.lt
  have hb : Below w.heap.size w ((w.alloc z4).alloc z4) := ((Below.refl _ w).alloc (Nat.le_refl _) _).alloc (by simp) _
  have HB := Lib.hid hb
  have hw : IntKind.i64.wrap ((s.size : Int) - k) = (s.size : Int) - k := IntWalk.i64_in _ (by omega)
  have c0' : ((w.alloc (.cells #[.int .u8 0, .int .u8 0, .int .u8 0, .int .u8 0] 52)).alloc (.cells #[.int .u8 0, .int .u8 0, .int .u8 0, .int .u8 0] 52)).cell? ⟨b, 0, none⟩ = some (.string s) := (hb.cell (p := ⟨b, 0, none⟩) hlt).trans c0
  clear hb h
  by_cases hk0 : k < 0
  · have hd : decide (k < 0) = true := decide_eq_true hk0
    clear hk
    go_enter Try.func20, Try.ntmps20
    go_wp2
    refine bodyPost_ret (ret_key _ w.heap.size _ _ _ _ false _ rfl rfl ((Below.heap_alloc _ _ _ (by simp)).trans (heap_alloc_new w _))) rfl ⟨rfl, HB.out⟩
  · have hd : decide (k < 0) = false := decide_eq_false hk0
    have hd2 : decide ((s.size : Int) - k < 4) = true := decide_eq_true (by omega)
    clear hk
    go_enter Try.func20, Try.ntmps20
    go_wp2
    refine bodyPost_ret (ret_key _ w.heap.size _ _ _ _ false _ rfl rfl ((Below.heap_alloc _ _ _ (by simp)).trans (heap_alloc_new w _))) rfl ⟨rfl, HB.out⟩
end Go.Proofs.Ytepndjlgjaeonaa.Hg
