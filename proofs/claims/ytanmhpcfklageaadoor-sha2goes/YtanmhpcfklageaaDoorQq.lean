/-
  For Sha2Pieces: pieces laid end to end; a piece more; a copy that goes its own way; an argument that is a slice of texts.
-/
import Derived.Test.YtanmhpcfklageaaDoorQi
import Derived.Test.YtanmhpcfklageaaDoorP
namespace Go.Proofs.YtanmhpcfklageaaDoor.Ho
open Go.RowKit Go.WideShapes Go.ChangeShapes Hs
set_option linter.unusedVariables false

/-- texts, end to end -/
def cat (ss : List ByteArray) : List UInt8 := (bls ss).flatten
theorem cat_nil : cat [] = [] := rfl
theorem cat_append (a b : List ByteArray) : cat (a ++ b) = cat a ++ cat b := by simp [cat, bls]
theorem cat_take (ss : List ByteArray) (k : Nat) (h : k < ss.length) : cat (ss.take (k + 1)) = cat (ss.take k) ++ (ss.getD k ByteArray.empty).data.toList := flat_take ss k h
theorem cat_split (ss : List ByteArray) (k : Nat) : cat (ss.take k) ++ cat (ss.drop k) = cat ss := by rw [← cat_append, List.take_append_drop]
theorem cat_len (ss : List ByteArray) (n : Nat) : ∀ k, k ≤ ss.length → (∀ i, i < k → (ss.getD i ByteArray.empty).size ≤ n) → (cat (ss.take k)).length ≤ n * k
  | 0, _, _ => by simp [cat, bls]
  | k + 1, hk, h => by
    rw [cat_take ss k (by omega), List.length_append]
    have h1 := cat_len ss n k (by omega) (fun i hi => h i (by omega))
    have h2 := h k (by omega)
    have h3 : (ss.getD k ByteArray.empty).data.toList.length = (ss.getD k ByteArray.empty).size := by simp
    rw [Nat.mul_succ]
    omega
theorem text_append (T y : ByteArray) : (T ++ y : ByteArray).data.toList = T.data.toList ++ y.data.toList := by simp

/-- one piece more -/
theorem write_one (w : World) (b : Nat) (l : List UInt8) (y : ByteArray) (h : St w b l) (hs : l.length + y.size ≤ 1000000) :
    Calls Tryd.prog 10 #[.pointer (some ⟨b, 0, none⟩), .slice (some ⟨w.heap.size, 0, none⟩) 1 1] (w.alloc (.cells #[.string y] 9)) fun e w' => e = .returned (.tuple #[]) ∧ St w' b (l ++ y.data.toList) ∧ w.grownBy w' (some b) := by
  have hlt := h.lt
  have hf : (bls [y]).flatten = y.data.toList := by simp [bls, bl]
  have hw := write_any (w.alloc (.cells #[.string y] 9)) b l (some ⟨w.heap.size, 0, none⟩) _ 1 _ (h.below ((Below.refl _ w).alloc (Nat.le_refl _) _) hlt) (strs1 w y)
    (fun _ ad e => by injection e with e; subst e; show w.heap.size ≠ _; omega) (by rw [hf]; simp at hs ⊢; omega) (by simp)
  rw [hf] at hw
  refine hw.mono ?_
  rintro e w' ⟨rfl, h1, h2⟩
  exact ⟨rfl, h1, (World.grownBy_alloc w _ _).trans h2⟩

theorem write_three (w : World) (b : Nat) (l : List UInt8) (y : ByteArray) (h : St w b l) (hs : l.length + y.size ≤ 1000000) :
    Calls Tryd.prog 10 #[.pointer (some ⟨b, 0, none⟩), .slice (some ⟨w.heap.size, 0, none⟩) 3 3] (w.alloc (.cells #[.string ⟨#[]⟩, .string y, .string ⟨#[]⟩] 9)) fun e w' => e = .returned (.tuple #[]) ∧ St w' b (l ++ y.data.toList) ∧ w.grownBy w' (some b) := by
  have hlt := h.lt
  have hf : (bls [⟨#[]⟩, y, ⟨#[]⟩]).flatten = y.data.toList := by simp [bls, bl]
  have hw := write_any (w.alloc (.cells #[.string ⟨#[]⟩, .string y, .string ⟨#[]⟩] 9)) b l (some ⟨w.heap.size, 0, none⟩) _ 3 _ (h.below ((Below.refl _ w).alloc (Nat.le_refl _) _) hlt) (strs3 w ⟨#[]⟩ y ⟨#[]⟩)
    (fun _ ad e => by injection e with e; subst e; show w.heap.size ≠ _; omega) (by rw [hf]; simp at hs ⊢; omega) (by simp)
  rw [hf] at hw
  refine hw.mono ?_
  rintro e w' ⟨rfl, h1, h2⟩
  exact ⟨rfl, h1, (World.grownBy_alloc w _ _).trans h2⟩
/-- the digest of two texts -/
theorem sum_two (a b : ByteArray) (w : World) (hK : Ks w) (hs : a.size + b.size ≤ 1000000) :
    Calls Tryd.prog 7 #[.slice (some ⟨w.heap.size, 0, none⟩) 2 2] (w.alloc (.cells #[.string a, .string b] 9)) fun e w' => e = .returned (.string ⟨(S2.sum (a.data.toList ++ b.data.toList)).toArray⟩) ∧ Below w.heap.size w w' := by
  have hf : (bls [a, b]).flatten = a.data.toList ++ b.data.toList := by simp [bls, bl]
  have h := sum_any (w.alloc (.cells #[.string a, .string b] 9)) (hK.alloc _) (some ⟨w.heap.size, 0, none⟩) 2 [a, b] (by have := strs2 w a b; simpa using this) (by rw [hf]; simp at hs ⊢; omega) (by simp)
  rw [hf] at h
  refine h.mono ?_
  rintro e w' ⟨rfl, hb⟩
  exact ⟨rfl, ((Below.refl _ w).alloc (Nat.le_refl _) _).trans (hb.mono (by simp))⟩

/-- what the copy was told behind k pieces: nothing, till it is made behind the piece m -/
def CopyAt (wx : World) (b lo : Nat) (ss : List ByteArray) (m k : Nat) (v : Value) : Prop :=
  ∃ g, v = .pointer (some ⟨g, 0, none⟩) ∧ g ≠ b ∧ lo ≤ g ∧ St wx g (if m ≤ k then cat (ss.take m) else [])
/-- the state of the second loop -/
structure Pie (w wx : World) (b : Nat) (ss : List ByteArray) (m k : Nat) (v : Value) : Prop where
  below : Below w.heap.size w wx
  lo : w.heap.size ≤ b
  kl : 0 < w.heap.size
  st : St wx b (cat (ss.take k))
  copy : CopyAt wx b w.heap.size ss m k v
section
variable {w wx w1 w2 w3 : World} {b m k : Nat} {ss : List ByteArray} {v : Value}
theorem Pie.next (h : Pie w wx b ss m k v) (hne : k + 1 ≠ m) (hst : St w1 b (cat (ss.take (k + 1)))) (hg : wx.grownBy w1 (some b)) (hb : Below w1.heap.size w1 w2) : Pie w w2 b ss m (k + 1) v := by
  have hlo := h.lo
  have hkl := h.kl
  have hb1 : Below w.heap.size w w1 := h.below.grown hg h.below.size (fun i hi => by injection hi with hi; omega)
  refine ⟨hb1.trans (hb.mono hb1.size), h.lo, h.kl, hst.below hb hst.lt, ?_⟩
  obtain ⟨g, h2, h3, h4, h5⟩ := h.copy
  have h6 := h5.grown hg h3 (by omega)
  refine ⟨g, h2, h3, h4, ?_⟩
  have h7 := h6.below hb h6.lt
  by_cases hm : m ≤ k
  · rw [if_pos hm] at h7; rw [if_pos (by omega)]; exact h7
  · rw [if_neg hm] at h7; rw [if_neg (by omega)]; exact h7
theorem Pie.made (h : Pie w wx b ss m k v) (hm : k + 1 = m) (hst : St w1 b (cat (ss.take (k + 1)))) (hg : wx.grownBy w1 (some b)) (hb : Below w1.heap.size w1 w2) (hc : St w3 w2.heap.size (cat (ss.take (k + 1)))) (hb3 : Below w2.heap.size w2 w3) :
    Pie w w3 b ss m (k + 1) (.pointer (some ⟨w2.heap.size, 0, none⟩)) := by
  have hlo := h.lo
  have hb1 : Below w.heap.size w w1 := h.below.grown hg h.below.size (fun i hi => by injection hi with hi; omega)
  have hb2 := hb1.trans (hb.mono hb1.size)
  have hst2 := hst.below hb hst.lt
  have hlt2 := hst2.lt
  refine ⟨hb2.trans (hb3.mono hb2.size), h.lo, h.kl, hst2.below hb3 hst2.lt, w2.heap.size, rfl, by omega, hb2.size, ?_⟩
  rw [if_pos (by omega), ← hm]
  exact hc
theorem Pie.more (h : Pie w wx b ss m k v) (hb : Below wx.heap.size wx w2) : Pie w w2 b ss m k v := by
  obtain ⟨g, h2, h3, h4, h5⟩ := h.copy
  exact ⟨h.below.trans (hb.mono h.below.size), h.lo, h.kl, h.st.below hb h.st.lt, g, h2, h3, h4, h5.below hb h5.lt⟩
end
theorem add_add (ad : Addr) (m i : Nat) : (ad.add m).add i = ad.add (m + i) := by
  unfold Addr.add
  by_cases hm : m = 0
  · subst hm; simp
  · by_cases hi : i = 0
    · subst hi; simp [hm]
    · simp [hm, hi, Nat.add_assoc]
theorem strs_dropped {w : World} {B : Nat} {ad : Addr} {ss : List ByteArray} (h : Strs w B (some ad) ss) (m : Nat) : Strs w B (some (ad.add m)) (ss.drop m) := fun i hi => by
  rw [List.length_drop] at hi
  obtain ⟨ad', e, hlt, hc⟩ := h (m + i) (by omega)
  injection e with e
  subst e
  refine ⟨_, rfl, by rw [block_of_add]; exact hlt, ?_⟩
  rw [add_add ad m i, hc]
  simp [List.getD]
/-- a slice of texts from a place on -/
theorem strs_from (w : World) (B : Nat) (A : Option Addr) (c m : Nat) (ss : List ByteArray) (h : Strs w B A ss) (hc : ss.length ≤ c) (hm : m ≤ ss.length) :
    ∃ A', (∀ W, (Instr.sliceAt 26 (.slice A ss.length c) (some (.int .i64 (m : Int))) none none).run Tryd.prog W = .ok (.slice A' (ss.length - m) (c - m)) W) ∧ Strs w B A' (ss.drop m) := by
  refine ⟨if c = m then A else A.map (·.add m), fun W => ?_, ?_⟩
  · have he : Tryd.prog.elem 26 = 9 := by kernel_rfl
    have hu : Tryd.prog.underlying 26 = some (.slice (Tryd.prog.elem 26)) := by rw [he]; exact Tryd.underlying26
    rw [run_sliceAt_slice _ _ _ _ _ _ hu, run_slice_l _ _ _ _ _ hu .i64 m (by omega) (by omega), he, Tryd.sizeOf9]
    show Result.ok (sliced _ _ _ _ _) W = _
    rw [sliced, Nat.mul_one, Int.toNat_natCast]
  · by_cases hl : m < ss.length
    · obtain ⟨ad, rfl, _, _⟩ := h m hl
      rw [if_neg (by omega)]
      exact strs_dropped h m
    · intro i hi
      rw [List.length_drop] at hi
      omega
/-- texts' cells -/
def strCells (ss : List ByteArray) : List Value := ss.map Value.string
theorem strs_cells {w : World} {B : Nat} {ad : Addr} {ss : List ByteArray} (h : Strs w B (some ad) ss) : ∀ j u, (strCells ss)[j]? = some u → w.cell? (ad.add j) = some u := fun j u hu => by
  have hj : j < ss.length := by
    rcases Nat.lt_or_ge j ss.length with h1 | h1
    · exact h1
    · rw [List.getElem?_eq_none (by simpa [strCells] using h1)] at hu; cases hu
  obtain ⟨ad', e, _, hc⟩ := h j hj
  injection e with e
  subst e
  rw [hc, ← hu]
  simp [strCells, List.getD, List.getElem?_eq_getElem hj]
theorem strs_own {w : World} {base n : Nat} {v : Value} {ss : List ByteArray} (h : w.ownsRow base 9 1 v n (strCells ss)) : ∃ A c, v = .slice A ss.length c ∧ Strs w w.heap.size A ss := by
  have hn : n = ss.length := by have := h.1; simp [strCells] at this; omega
  subst hn
  rcases h.2 with ⟨rfl, h0⟩ | ⟨g, cap, cur, rfl, hb, hg, hle, hm, hsz, htk⟩
  · exact ⟨none, 0, by rw [h0], fun i hi => by omega⟩
  · refine ⟨_, cap, rfl, fun i hi => ⟨_, rfl, (Array.getElem?_eq_some_iff.1 hg).1, ?_⟩⟩
    have := h.cells (g := g) rfl i (.string (ss.getD i ByteArray.empty)) (by simp [strCells, List.getD, List.getElem?_eq_getElem hi])
    exact this
theorem info9 : (Tryd.prog.info? 9).map (fun i => (i.zero, i.size, i.bytes)) = some (some (.string ByteArray.empty), 1, 16) := by kernel_rfl

/-- an append under a guard that is met, its run known -/
theorem wpList_append_wanted {P : Program} {ops : Array Oper} {rest : List Oper} {o : Oper} {a : Act} {w : World} {Q : Exit → Act → World → Prop} (hw : Region.wanted o (yielded ops a.tmps) = true) (s x : Operand) (t t' : TypeId)
    (ho : o.op = .call { callee := .builtin .append, args := #[s, x], argTypes := #[t, t'] }) (v y v' : Value) (w' : World) (hs : a.eval s = v) (hx : a.eval x = y)
    (hrun : (Builtin.append_ #[t, t'] o.type #[v, y]).run P w = .ok v' w') (h : wpList P ops Q rest (a.put o.dst v') w') : wpList P ops Q (o :: rest) a w := by
  show (if Region.wanted o (yielded ops a.tmps) then _ else _)
  rw [if_pos hw]
  refine .inl ?_
  unfold Oper.wp
  simp [execOp, ho, resolve, invoke, builtin, hs, hx, hrun, Result.andThen]
  exact h
theorem app_strs (w : World) (A : Option Addr) (c : Nat) (ss : List ByteArray) (hr : Strs w w.heap.size A ss) (hss : ss.length ≤ 1000) : ∃ v' w' A' c', ((Builtin.append_ #[26, 26] 26 #[.slice (some ⟨w.heap.size, 0, none⟩) 0 0, .slice A ss.length c]).run Tryd.prog (w.alloc (.cells #[] 9)) = .ok v' w') ∧
    v' = .slice A' ss.length c' ∧ Strs w' w'.heap.size A' ss ∧ Below w.heap.size w w' := by
  obtain ⟨i0, hi0, hz0, hz1, hz2⟩ := info_parts info9
  have hb0 : Below w.heap.size w (w.alloc (.cells #[] 9)) := (Below.refl _ w).alloc (Nat.le_refl _) _
  have hown : (w.alloc (.cells #[] 9)).ownsRow w.heap.size 9 1 (.slice (some ⟨w.heap.size, 0, none⟩) 0 0) 0 [] :=
    ⟨rfl, .inr ⟨w.heap.size, 0, #[], rfl, Nat.le_refl _, heap_alloc_new w _, Nat.le_refl _, Nat.zero_le _, rfl, rfl⟩⟩
  cases A with
  | none =>
    have h0 : ss = [] := by
      cases ss with
      | nil => rfl
      | cons y r => obtain ⟨ad, e, _⟩ := hr 0 (by simp); cases e
    subst h0
    refine ⟨.slice (some ⟨w.heap.size, 0, none⟩) 0 0, w.alloc (.cells #[] 9), some ⟨w.heap.size, 0, none⟩, 0, ?_, rfl, (fun i hi => by cases hi), hb0⟩
    simp [Builtin.append_, run_underlying Tryd.underlying26, Builtin.lenOf, Builtin.firstCells, sizeOf, typeInfo, hi0, storeCells]
  | some ad =>
    have hr1 : Strs (w.alloc (.cells #[] 9)) w.heap.size (some ad) ss := hr.below hb0
    have hrun := fun ty => run_append_own_at (P := Tryd.prog) (w.alloc (.cells #[] 9)) w.heap.size 26 ty 9 i0 _ 1 16 Tryd.underlying26 hi0 hz0 hz1 hz2 rfl (by omega) _ 0 [] hown ad ss.length c (strCells ss) (by simp [strCells]) (strs_cells hr1) (by simp [strCells, Value.oneCell']) (by unfold maxLen; omega) (by omega) (by simp)
    obtain ⟨v', w', h1, h2, h3, _, _⟩ := hrun 26
    rw [Nat.zero_add, List.nil_append] at h2
    obtain ⟨A', c', rfl, hS⟩ := strs_own h2
    refine ⟨_, w', A', c', h1, rfl, hS, hb0.grown h3 (by simp) (fun k hk => by injection hk with hk; subst hk; exact Nat.le_refl _)⟩

/-- an argument that is a slice of texts, with its capacity -/
theorem open_strs_cap {H : Type} {enc : TypeId × Value → H} {W : World} {base : Nat} {v : Value} {d : DataW H} {ps : List MemPlace} (hok : Value.okWide Tryd.prog W .any base 26 v)
    (h : DataW.Trod enc Tryd.prog W 0 (fun _ => true) true 26 v d ps) : ∃ (A : Option Addr) (ss : List ByteArray) (c : Nat), v = .slice A ss.length c ∧ Strs W W.heap.size A ss ∧ ss.length ≤ c := by
  obtain ⟨a0, len, cap, rfl⟩ := Go.WideShapes.okWide_slice Tryd.underlying26 hok
  obtain ⟨fuel, hf⟩ := h
  rcases open_strings Tryd.underlying26 Tryd.underlying9 Tryd.cells9 hf with ⟨hcs, hx⟩ | ⟨a, len', cap', ss, hcs, _, hl, hm, hz, hx, hcell, hws⟩
  · simp [Value.cells] at hcs
    obtain ⟨rfl, rfl, rfl⟩ := hcs
    exact ⟨none, [], 0, rfl, (fun i hi => by cases hi), Nat.le_refl _⟩
  · simp [Value.cells] at hcs
    obtain ⟨rfl, rfl, rfl⟩ := hcs
    simp only [if_true] at hz
    have hlen : (ss.take len).length = len := by rw [List.length_take]; omega
    refine ⟨some a, ss.take len, cap, by rw [hlen], fun i hi => ?_, by rw [hlen]; exact hl⟩
    rw [hlen] at hi
    have hc := hcell i (by omega)
    refine ⟨a, rfl, ?_, ?_⟩
    · have := World.block_lt_of_cell? _ _ hc
      rwa [block_of_add] at this
    · rw [hc]
      simp [List.getD, hi]
end Go.Proofs.YtanmhpcfklageaaDoor.Ho
