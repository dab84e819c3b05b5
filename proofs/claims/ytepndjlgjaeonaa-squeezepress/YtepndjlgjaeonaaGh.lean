/-
  The key at a place where there is one (layer 8).
-/
import Derived.Test.YtepndjlgjaeonaaGg
import Derived.Lib.BufferWrite
import Derived.Laws.Tables
namespace Go.Proofs.Ytepndjlgjaeonaa.Hg
open Go.RowKit Hw
set_option linter.unusedVariables false

/-- copying bytes into a row: as many as there is room for -/
theorem run_copy_bytes {P : Program} (w : World) (dT sT ty elem : TypeId) (g o dLen dCap : Nat) (s : ByteArray) (cur : Array Value) (t : TypeId)
    (hu : P.underlying dT = some (.slice elem)) (hs : (P.info? elem).map (·.size) = some 1) (hg : w.heap[g]? = some (.cells cur t (0, 0))) (n : Nat) (hn : n = min s.size dLen) (hfit : o + n ≤ cur.size) :
    (Builtin.copy_ #[dT, sT] ty #[.slice (some ⟨g, o, none⟩) dLen dCap, .string s]).run P w =
      .ok (.int .i64 n) (w.setRow g (cur.toList.take o ++ Lib.byteCells (s.data.toList.take n) ++ cur.toList.drop (o + n)).toArray) := by
  have hlen : (Lib.byteCells (s.data.toList.take n)).length = n := by rw [Lib.byteCells_length, List.length_take, ← Lib.size_eq]; omega
  have hst := run_storeCells_at P g o t (Lib.byteCells (s.data.toList.take n)) 0 cur w hg (by rw [hlen]; simpa using hfit) (Lib.byteCells_one _)
  have hmin : Nat.min s.size dLen = n := hn.symm
  have htk : List.take n (List.map (fun b : UInt8 => Value.int IntKind.u8 (b.toNat : Int)) s.data.toList) = Lib.byteCells (s.data.toList.take n) := by
    rw [← List.map_take]; rfl
  rw [hlen] at hst
  simp only [Nat.add_zero] at hst
  cases hq : P.info? elem with
  | none => simp [hq] at hs
  | some i =>
    simp [Builtin.copy_, run_underlying hu, Builtin.lenOf, Builtin.firstCells, sizeOf, typeInfo, hq, hmin]
    rw [htk, hst]
    simp [Result.andThen, goInt]
theorem four (l : List UInt8) (h : 4 ≤ l.length) : l.take 4 = [l.getD 0 0, l.getD 1 0, l.getD 2 0, l.getD 3 0] := by
  match l, h with
  | a :: b :: c :: d :: r, _ => simp
theorem info5s : (Try.prog.info? 5).map (·.size) = some 1 := by kernel_rfl

set_option maxHeartbeats 2000000 in
set_option maxRecDepth 100000 in
theorem keyYes_any (w : World) (B b m : Nat) (s : ByteArray) (n : Nat) (D : DataW Unit) (A : Option Addr) (c : Nat) (o : List UInt8) (h : PrAt w B b m s n D A c o) (k : Nat) (hk : k + 4 ≤ s.size) (hs : s.size ≤ 100000000) :
    Calls Try.prog 20 #[.pointer (some ⟨b, 0, none⟩), .int .i64 k] w fun r w' => r = .returned (.tuple #[kv s k, .bool true]) ∧ Below w.heap.size w w' := by
  have c0 := h.c0
  have hlt := h.lt
  have hb : Below w.heap.size w ((w.alloc (.cells #[.int .u8 0, .int .u8 0, .int .u8 0, .int .u8 0] 52)).alloc (.cells #[.int .u8 0, .int .u8 0, .int .u8 0, .int .u8 0] 52)).drew := (((Below.refl _ w).alloc (Nat.le_refl _) _).alloc (by simp) _).drew
  have hw : IntKind.i64.wrap ((s.size : Int) - k) = (s.size : Int) - k := IntWalk.i64_in _ (by omega)
  have c0' : ((w.alloc (.cells #[.int .u8 0, .int .u8 0, .int .u8 0, .int .u8 0] 52)).alloc (.cells #[.int .u8 0, .int .u8 0, .int .u8 0, .int .u8 0] 52)).cell? ⟨b, 0, none⟩ = some (.string s) := (hb.cell (p := ⟨b, 0, none⟩) hlt).trans c0
  have h1 : ((w.alloc (.cells #[.int .u8 0, .int .u8 0, .int .u8 0, .int .u8 0] 52)).alloc (.cells #[.int .u8 0, .int .u8 0, .int .u8 0, .int .u8 0] 52)).drew.heap[w.heap.size + 1]? = some (.cells #[.int .u8 0, .int .u8 0, .int .u8 0, .int .u8 0] 52) := by
    have := heap_alloc_new (w.alloc (.cells #[.int .u8 0, .int .u8 0, .int .u8 0, .int .u8 0] 52)) (.cells #[.int .u8 0, .int .u8 0, .int .u8 0, .int .u8 0] 52)
    rwa [World.size_alloc] at this
  have h0 : ((w.alloc (.cells #[.int .u8 0, .int .u8 0, .int .u8 0, .int .u8 0] 52)).alloc (.cells #[.int .u8 0, .int .u8 0, .int .u8 0, .int .u8 0] 52)).drew.heap[w.heap.size]? = some (.cells #[.int .u8 0, .int .u8 0, .int .u8 0, .int .u8 0] 52) := (Below.heap_alloc _ _ _ (by simp)).trans (heap_alloc_new w (.cells #[.int .u8 0, .int .u8 0, .int .u8 0, .int .u8 0] 52))
  have hsl := slice_from s k (k : Int) rfl (by omega)
  have hsz : (s.extract k s.size).size = s.size - k := by rw [ByteArray.size_extract]; omega
  have hbx := bl_drop s k
  have hcp := fun ty => run_copy_bytes (P := Try.prog) ((w.alloc (.cells #[.int .u8 0, .int .u8 0, .int .u8 0, .int .u8 0] 52)).alloc (.cells #[.int .u8 0, .int .u8 0, .int .u8 0, .int .u8 0] 52)).drew 33 9 ty 5 (w.heap.size + 1) 0 4 4 (s.extract k s.size) _ 52 Try.underlying33 info5s h1 4 (by omega) (by show 0 + 4 ≤ 4; omega)
  have hrow : ((#[Value.int .u8 0, .int .u8 0, .int .u8 0, .int .u8 0] : Array Value).toList.take 0 ++ Lib.byteCells ((s.extract k s.size).data.toList.take 4) ++ (#[Value.int .u8 0, .int .u8 0, .int .u8 0, .int .u8 0] : Array Value).toList.drop (0 + 4)).toArray = #[bv ((bl s).getD k 0), bv ((bl s).getD (k + 1) 0), bv ((bl s).getD (k + 2) 0), bv ((bl s).getD (k + 3) 0)] := by
    have e : (s.extract k s.size).data.toList = (bl s).drop k := hbx
    rw [e, four _ (by rw [List.length_drop, bl_length]; omega)]
    simp only [Sq.drop_getD, Nat.add_zero]
    rfl
  rw [hrow] at hcp
  have hs1 := setRow_heap _ _ _ #[bv ((bl s).getD k 0), bv ((bl s).getD (k + 1) 0), bv ((bl s).getD (k + 2) 0), bv ((bl s).getD (k + 3) 0)] _ _ h1
  have hs0 := (setRow_other ((w.alloc (.cells #[.int .u8 0, .int .u8 0, .int .u8 0, .int .u8 0] 52)).alloc (.cells #[.int .u8 0, .int .u8 0, .int .u8 0, .int .u8 0] 52)).drew (w.heap.size + 1) w.heap.size #[bv ((bl s).getD k 0), bv ((bl s).getD (k + 1) 0), bv ((bl s).getD (k + 2) 0), bv ((bl s).getD (k + 3) 0)] (by omega)).trans h0
  have HKV := Lib.hid (show kv s k = .agg #[bv ((bl s).getD k 0), bv ((bl s).getD (k + 1) 0), bv ((bl s).getD (k + 2) 0), bv ((bl s).getD (k + 3) 0)] from rfl)
  have hbs : Below w.heap.size w (((w.alloc (.cells #[.int .u8 0, .int .u8 0, .int .u8 0, .int .u8 0] 52)).alloc (.cells #[.int .u8 0, .int .u8 0, .int .u8 0, .int .u8 0] 52)).drew.setRow (w.heap.size + 1) #[bv ((bl s).getD k 0), bv ((bl s).getD (k + 1) 0), bv ((bl s).getD (k + 2) 0), bv ((bl s).getD (k + 3) 0)]) := ⟨hb.os, hb.tape, hb.output, (by simp [World.setRow]; omega), fun j hj => (setRow_other _ _ j _ (by omega)).trans (hb.block j hj)⟩
  have hone : (#[bv ((bl s).getD k 0), bv ((bl s).getD (k + 1) 0), bv ((bl s).getD (k + 2) 0), bv ((bl s).getD (k + 3) 0)] : Array Value).all (·.oneCell') = true := by simp [bv, Value.oneCell']
  have hd : decide ((k : Int) < 0) = false := decide_eq_false (by omega)
  have hd2 : decide ((s.size : Int) - k < 4) = false := decide_eq_false (by omega)
  generalize bv ((bl s).getD k 0) = x0 at *
  generalize bv ((bl s).getD (k + 1) 0) = x1 at *
  generalize bv ((bl s).getD (k + 2) 0) = x2 at *
  generalize bv ((bl s).getD (k + 3) 0) = x3 at *
  generalize s.extract k s.size = X at *
  have HB := Lib.hid (And.intro hbs (And.intro hs0 hs1))
  have HCP := Lib.hid hcp
  clear hb h h1 h0 hbx hrow hs1 hs0 hbs hcp
  go_enter Try.func20, Try.ntmps20
  have hal : Try.prog.arrayLen 52 = 4 := by kernel_rfl
  go_wp2_with fail
  refine wp_region_still_tail 7 (by kernel_rfl) (by kernel_rfl) ?_
  simp only [List.take_succ_cons, List.take_zero, List.drop_succ_cons, List.drop_zero]
  change wpStill _ _ (World.drew _) (fun a' => wpList _ _ _ _ a' (World.drew _)) _ _
  have c9 : ((w.alloc (.cells #[.int .u8 0, .int .u8 0, .int .u8 0, .int .u8 0] 52)).alloc (.cells #[.int .u8 0, .int .u8 0, .int .u8 0, .int .u8 0] 52)).drew.cell? ⟨b, 0, none⟩ = some (.string s) := c0'
  generalize hW1 : ((w.alloc (.cells #[.int .u8 0, .int .u8 0, .int .u8 0, .int .u8 0] 52)).alloc (.cells #[.int .u8 0, .int .u8 0, .int .u8 0, .int .u8 0] 52)).drew = w1 at *
  iterate 7 ((with_reducible refine wpStill_step ?_); intro K hK; go_simp; refine hK _ ?_; clear hK K)
  refine wpStill_nil ?_
  have hcp := HCP.out
  clear HCP
  generalize hW2 : w1.setRow (w.heap.size + 1) #[x0, x1, x2, x3] = w2 at *
  have q0 : w2.cell? ⟨w.heap.size + 1, 0, none⟩ = some x0 := cell_of_cells HB.out.2.2 0
  have q1 : w2.cell? ⟨w.heap.size + 1, 1, none⟩ = some x1 := cell_of_cells HB.out.2.2 1
  have q2 : w2.cell? ⟨w.heap.size + 1, 2, none⟩ = some x2 := cell_of_cells HB.out.2.2 2
  have q3 : w2.cell? ⟨w.heap.size + 1, 3, none⟩ = some x3 := cell_of_cells HB.out.2.2 3
  clear hW2 c0 c0' hw hd hd2
  have HONE := Lib.hid hone
  clear hone
  go_wp2_with (refine wpList_store_row rfl 52 (.tmp 4) (.tmp 28) rfl w.heap.size #[x0, x1, x2, x3] rfl rfl 52 _ HB.out.2.1 (by kernel_rfl) rfl HONE.out ?_)
  refine bodyPost_ret (ret_key _ w.heap.size _ _ _ _ true _ rfl rfl (setRow_heap _ _ _ _ _ _ HB.out.2.1)) rfl ⟨by rw [HKV.out], ?_⟩
  exact ⟨HB.out.1.os, HB.out.1.tape, HB.out.1.output, (by rw [setRow_size]; exact HB.out.1.size), fun j hj => (setRow_other _ _ j _ (by omega)).trans (HB.out.1.block j hj)⟩
end Go.Proofs.Ytepndjlgjaeonaa.Hg
