/-
  What a part more makes of a state of package sha1: lists, and the state between two steps of take.
-/
import Derived.Test.YtpffolohkmokhaaPd
namespace Go.Proofs.Ytpffolohkmokhaa.Hp
open Go.RowKit Hs
set_option linter.unusedVariables false

theorem drop_take_append (l p : List UInt8) (i n : Nat) (h : i + n ≤ l.length) : ((l ++ p).drop i).take n = (l.drop i).take n := by
  rw [List.drop_append_of_le_length (by omega), List.take_append_of_le_length (by simp; omega)]
theorem chain_append (l p : List UInt8) : ∀ k, 64 * k ≤ l.length → Sh.chain (l ++ p) k = Sh.chain l k
  | 0, _ => rfl
  | k + 1, h => by
    rw [Sh.chain, Sh.chain, chain_append l p k (by omega), drop_take_append l p (64 * k) 64 (by omega)]
theorem chain_snoc (l p : List UInt8) (k : Nat) (h : 64 * k ≤ l.length) : Sh.chain (l ++ p) (k + 1) = Sh.press (Sh.chain l k) (((l ++ p).drop (64 * k)).take 64) := by
  rw [Sh.chain, chain_append l p k h]

/-- copying bytes into a row: as many as there is room for -/
theorem run_copy_bytes {P : Program} (w : World) (dT sT ty elem : TypeId) (g o dLen dCap : Nat) (s : ByteArray) (cur : Array Value) (t : TypeId)
    (hu : P.underlying dT = some (.slice elem)) (hs : (P.info? elem).map (·.size) = some 1) (hg : w.heap[g]? = some (.cells cur t (0, 0))) (n : Nat) (hn : n = min s.size dLen) (hfit : o + n ≤ cur.size) :
    (Builtin.copy_ #[dT, sT] ty #[.slice (some ⟨g, o, none⟩) dLen dCap, .string s]).run P w =
      .ok (.int .i64 n) (w.setRow g (cur.toList.take o ++ Lib.byteCells (s.data.toList.take n) ++ cur.toList.drop (o + n)).toArray) := by
  have hlen : (Lib.byteCells (s.data.toList.take n)).length = n := by rw [Lib.byteCells_length, List.length_take, ← Lib.size_eq]; omega
  have hst := run_storeCells_at P g o t (Lib.byteCells (s.data.toList.take n)) 0 cur w hg (by rw [hlen]; simpa using hfit) (Lib.byteCells_one _)
  have hmin : Nat.min s.size dLen = n := hn.symm
  have htk : List.take n (List.map (fun b : UInt8 => Value.int IntKind.u8 (b.toNat : Int)) s.data.toList) = Lib.byteCells (s.data.toList.take n) := by
    rw [← List.map_take]; rfl
  rw [hlen] at hst
  simp only [Nat.add_zero] at hst
  cases hq : P.info? elem with
  | none => simp [hq] at hs
  | some i =>
    simp [Builtin.copy_, run_underlying hu, Builtin.lenOf, Builtin.firstCells, sizeOf, typeInfo, hq, hmin]
    rw [htk, hst]
    simp [Result.andThen, goInt]
theorem byteCells_take (l : List UInt8) (n : Nat) : (Lib.byteCells l).take n = Lib.byteCells (l.take n) := by simp [Lib.byteCells, List.map_take]
theorem byteCells_drop (l : List UInt8) (n : Nat) : (Lib.byteCells l).drop n = Lib.byteCells (l.drop n) := by simp [Lib.byteCells, List.map_drop]
/-- .. into a state -/
theorem sts_copy (x : Sh.Ch) (r : List UInt8) (n h m : Nat) (p : List UInt8) (hr : r.length = 64) (hp : p.length = m) (hm : h + m ≤ 64) :
    ((sts x r n).toList.take (5 + h) ++ Lib.byteCells p ++ (sts x r n).toList.drop (5 + h + m)).toArray = sts x (r.take h ++ p ++ r.drop (h + m)) n := by
  have h5 := cs_len x
  have hb : (Lib.byteCells r).length = 64 := by rw [Lib.byteCells_length, hr]
  unfold sts
  congr 1
  simp only [List.append_assoc]
  rw [List.take_append, List.drop_append, h5, List.take_of_length_le (by omega), List.drop_eq_nil_of_le (by omega), show 5 + h - 5 = h by omega, show 5 + h + m - 5 = h + m by omega,
    List.take_append_of_le_length (by omega), List.drop_append_of_le_length (by omega), byteCells_take, byteCells_drop]
  simp [Lib.byteCells]

theorem wp_load_chain {o : Oper} {a : Act} {w : World} {K : Act → World → Prop} {Q : Exit → Act → World → Prop} (x : Operand) (ho : o.op = .load 40 x) (b : Nat) (hx : a.eval x = .pointer (some ⟨b, 0, none⟩))
    (X : Sh.Ch) (r : List UInt8) (n : Nat) (hg : w.heap[b]? = some (.cells (sts X r n) 81 (0, 0))) (h : K (a.put o.dst (.agg (cs X))) w) : o.wp Try.prog a w K Q := by
  unfold Oper.wp execOp
  simp only [ho, hx, Instr.loadAt, Instr.sureAddr, Sem.run_bind, Sem.run_pure, Result.andThen_ok, run_load_chain w b X r n (0, 0) hg]
  exact h
theorem wp_store_chain {o : Oper} {a : Act} {w : World} {K : Act → World → Prop} {Q : Exit → Act → World → Prop} (x y : Operand) (ho : o.op = .store 40 x y) (b : Nat) (Y : Sh.Ch) (hx : a.eval x = .pointer (some ⟨b, 0, none⟩)) (hy : a.eval y = .agg (cs Y))
    (X : Sh.Ch) (r : List UInt8) (n : Nat) (hg : w.heap[b]? = some (.cells (sts X r n) 81 (0, 0))) (h : K (a.put o.dst undef) (w.setRow b (sts Y r n))) : o.wp Try.prog a w K Q := by
  unfold Oper.wp execOp
  simp only [ho, hx, hy, Instr.storeAt, Instr.sureAddr, Sem.run_bind, Sem.run_pure, Result.andThen_ok, run_store_chain w b X Y r n hg]
  exact h
theorem sts_text (w : World) (b : Nat) (X : Sh.Ch) (r : List UInt8) (n : Nat) (hr : r.length = 64) (hg : w.heap[b]? = some (.cells (sts X r n) 81 (0, 0))) :
    (convert 66 9 (.slice (some ⟨b, 5, none⟩) 64 64)).run Try.prog w = .ok (.string ⟨r.toArray⟩) w := by
  have h := run_convert_bytes_arg w 66 5 Try.underlying66 Try.underlying5 b 5 64 64 (r.map fun c => (c.toNat : Int)) (by simp [hr]) (fun i hi => by
    rw [cell_of_row w b (5 + i) _ _ _ hg, sts_rest _ _ _ _ (by omega)]
    simp [List.getD, List.getElem?_eq_getElem (show i < r.length by omega)]) 9 Try.underlying9
  rw [h]
  simp [strOfNums, Function.comp_def]

theorem grown_setRow {w wr : World} {b : Nat} (h : w.grownBy wr (some b)) (cs : Array Value) : w.grownBy (wr.setRow b cs) (some b) :=
  ⟨h.os, h.tape, h.output, by simpa using h.size, fun k hk hne => (setRow_other _ _ _ _ (fun e => hne (by rw [e]))).trans (h.block k hk hne)⟩
theorem grown_below {w wr w1 : World} {b : Nat} (h : w.grownBy wr (some b)) (hb : Below wr.heap.size wr w1) : w.grownBy w1 (some b) :=
  ⟨hb.os.trans h.os, hb.tape.trans h.tape, hb.output.trans h.output, Nat.le_trans h.size hb.size, fun k hk hne => (hb.block k (Nat.lt_of_lt_of_le hk h.size)).trans (h.block k hk hne)⟩

/-- a state between: k blocks of L are in the chain, h bytes of the next lie in rest, P is what is still to be told -/
structure Mid (w wr : World) (b : Nat) (L : List UInt8) (k h : Nat) (P : ByteArray) : Prop where
  grown : w.grownBy wr (some b)
  row : ∃ r : List UInt8, r.length = 64 ∧ r.take h = (L.drop (64 * k)).take h ∧ wr.heap[b]? = some (.cells (sts (Sh.chain L k) r L.length) 81 (0, 0))
  pos : 64 * k + h + P.size = L.length
  text : P.data.toList = L.drop (64 * k + h)
  small : h = 0 ∨ h + P.size < 64
section
variable {w wr w1 : World} {b k h : Nat} {L : List UInt8} {P : ByteArray}
theorem extract_list (P : ByteArray) (i j : Nat) : (P.extract i j).data.toList = (P.data.toList.drop i).take (j - i) := by simp [List.extract_eq_take_drop]
/-- a block more -/
theorem Mid.block (hm : Mid w wr b L k h P) (h64 : 64 ≤ P.size) (hb : Below wr.heap.size wr w1) :
    ∃ r, r.length = 64 ∧ w1.heap[b]? = some (.cells (sts (Sh.chain L k) r L.length) 81 (0, 0)) ∧ Mid w (w1.setRow b (sts (Sh.press (Sh.chain L k) (P.extract 0 64).data.toList) r L.length)) b L (k + 1) 0 (P.extract 64 P.size) := by
  obtain ⟨hg, ⟨r, hr, hrt, hrow⟩, hpos, htext, hsmall⟩ := hm
  have h0 : h = 0 := by omega
  subst h0
  have hlt := (Array.getElem?_eq_some_iff.1 hrow).1
  have hrow1 : w1.heap[b]? = some (.cells (sts (Sh.chain L k) r L.length) 81 (0, 0)) := by rw [hb.block _ hlt]; exact hrow
  refine ⟨r, hr, hrow1, grown_setRow (grown_below hg hb) _, ⟨r, hr, by simp, ?_⟩, by rw [ByteArray.size_extract]; omega, ?_, .inl rfl⟩
  · rw [setRow_heap _ _ _ _ _ _ hrow1, extract_list, htext]
    rfl
  · rw [extract_list, htext, List.drop_drop, List.take_of_length_le (by simp; omega)]
    congr 1
/-- the last bytes are laid down -/
theorem Mid.done (hm : Mid w wr b L k h P) (h64 : P.size < 64) :
    ∃ cur : Array Value, wr.heap[b]? = some (.cells cur 81 (0, 0)) ∧ 5 + h + P.size ≤ cur.size ∧ St (wr.setRow b (cur.toList.take (5 + h) ++ Lib.byteCells (P.data.toList.take P.size) ++ cur.toList.drop (5 + h + P.size)).toArray) b L ∧
      ∀ c, w.grownBy (wr.setRow b c) (some b) := by
  obtain ⟨hg, ⟨r, hr, hrt, hrow⟩, hpos, htext, hsmall⟩ := hm
  have hk : L.length / 64 = k := by omega
  have hk2 : L.length % 64 = h + P.size := by omega
  have hPl : P.data.toList.length = P.size := by simp
  refine ⟨_, hrow, by rw [sts_size _ _ _ hr]; omega, ⟨r.take h ++ P.data.toList ++ r.drop (h + P.size), by simp [hr]; omega, ?_, ?_⟩, fun c => grown_setRow hg c⟩
  · have hl : (r.take h ++ P.data.toList).length = h + P.size := by simp [hr]; omega
    rw [hk, hk2, List.take_append_of_le_length (by omega), List.take_of_length_le (by omega), hrt, htext, ← List.drop_drop, List.take_append_drop]
  · rw [setRow_heap _ _ _ _ _ _ hrow, hk, List.take_of_length_le (l := P.data.toList) (by omega), sts_copy _ _ _ _ _ _ hr hPl (by omega)]
end
end Go.Proofs.Ytpffolohkmokhaa.Hp
