/-
  The program's disk in memory; what is asked of it (layer 7).
-/
import Derived.Test.YtdgfbpkpfmdjjaaKb
namespace Go.Proofs.Ytdgfbpkpfmdjjaa.Hk
open Go.RowKit Hr Hw Ht
set_option linter.unusedVariables false

/-- what the program keeps -/
structure Raw where
  room : Int
  lie : List Fl
  seen : List Fl
  taken : Int
  first : List Ef
  waiting : Int
  left : Int
  keep : Int
  down : Bool
def rcells (s : Raw) (ml ms : Nat) (A : Option Addr) (c : Nat) : Array Value := #[.int .i64 s.room, .map (some ml), .map (some ms), .int .i64 s.taken, .slice A s.first.length c, .int .i64 s.waiting, .int .i64 s.left, .int .u64 s.keep, .bool s.down]
def Dist (b ml ms : Nat) (v : Value) : Prop := b ≠ ml ∧ b ≠ ms ∧ ml ≠ ms ∧ ∀ g, v.ownBlock = some g → g ≠ b ∧ g ≠ ml ∧ g ≠ ms
def foot (b ml ms : Nat) (v : Value) : List Nat := b :: ml :: ms :: v.ownBlock.toList
/-- a disk in block b -/
def RawAt (w : World) (b : Nat) (s : Raw) (F : List Nat) : Prop :=
  ∃ ml ms A c, w.heap[b]? = some (.cells (rcells s ml ms A c) 73 (0, 0)) ∧ MapAt w ml s.lie ∧ MapAt w ms s.seen ∧
    w.ownsRow 0 80 4 (.slice A s.first.length c) s.first.length (s.first.flatMap gcells) ∧ Dist b ml ms (.slice A s.first.length c) ∧ F = foot b ml ms (.slice A s.first.length c)
section
variable {w w' : World} {b : Nat} {s s' : Raw} {F : List Nat}
theorem foot_mem {b ml ms : Nat} {v : Value} {k : Nat} : k ∈ foot b ml ms v ↔ k = b ∨ k = ml ∨ k = ms ∨ v.ownBlock = some k := by
  simp [foot]
theorem own_lt {w : World} {base : Nat} {e : TypeId} {k n : Nat} {v : Value} {xs : List Value} (h : w.ownsRow base e k v n xs) {g : Nat} (hg : v.ownBlock = some g) : g < w.heap.size := (h.lt g hg).2
theorem RawAt.lies (h : RawAt w b s F) : Lies F w := by
  obtain ⟨ml, ms, A, c, hb, h1, h2, h3, _, rfl⟩ := h
  intro k hk
  rcases foot_mem.1 hk with rfl | rfl | rfl | hk
  · exact (Array.getElem?_eq_some_iff.1 hb).1
  · exact h1.lt
  · exact h2.lt
  · exact own_lt h3 hk
theorem RawAt.same (h : RawAt w b s F) (hs : Same F w w') : RawAt w' b s F := by
  obtain ⟨ml, ms, A, c, hb, h1, h2, h3, h4, rfl⟩ := h
  exact ⟨ml, ms, A, c, (hs b (foot_mem.2 (.inl rfl))).trans hb, h1.same (hs ml (foot_mem.2 (.inr (.inl rfl)))), h2.same (hs ms (foot_mem.2 (.inr (.inr (.inl rfl))))), ownsRow_same h3 (fun k hk => hs k (foot_mem.2 (.inr (.inr (.inr hk))))), h4, rfl⟩
theorem same_of_below {F : List Nat} {w w' : World} (h : Below w.heap.size w w') (hl : Lies F w) : Same F w w' := fun k hk => h.block k (hl k hk)
theorem RawAt.below (h : RawAt w b s F) (hb : Below w.heap.size w w') : RawAt w' b s F := h.same (same_of_below hb h.lies)
theorem RawAt.mem (h : RawAt w b s F) : b ∈ F := by
  obtain ⟨ml, ms, A, c, hb, h1, h2, h3, h4, rfl⟩ := h
  exact foot_mem.2 (.inl rfl)
theorem RawAt.lt (h : RawAt w b s F) : b < w.heap.size := h.lies b h.mem
/-- some cells of the disk itself are written -/
theorem RawAt.turn (h : RawAt w b s F) (hl : s'.lie = s.lie) (hse : s'.seen = s.seen) (hf : s'.first = s.first) (hs : ∀ k, k ≠ b → w'.heap[k]? = w.heap[k]?)
    (hc : ∀ ml ms A c, w.heap[b]? = some (.cells (rcells s ml ms A c) 73 (0, 0)) → w'.heap[b]? = some (.cells (rcells s' ml ms A c) 73 (0, 0))) : RawAt w' b s' F := by
  obtain ⟨ml, ms, A, c, hb, h1, h2, h3, h4, rfl⟩ := h
  have h5 := h4
  obtain ⟨e1, e2, e3, e4⟩ := h4
  refine ⟨ml, ms, A, c, hc ml ms A c hb, ?_, ?_, ?_, ?_, ?_⟩
  · rw [hl]; exact h1.same (hs ml (Ne.symm e1))
  · rw [hse]; exact h2.same (hs ms (Ne.symm e2))
  · rw [hf]; exact ownsRow_same h3 (fun k hk => hs k (e4 k hk).1)
  · rw [hf]; exact h5
  · rw [hf]
theorem RawAt.set (h : RawAt w b s F) (i : Nat) (v : Value) (s' : Raw) (hl : s'.lie = s.lie) (hse : s'.seen = s.seen) (hf : s'.first = s.first) (hc : ∀ ml ms A c, (rcells s ml ms A c).setIfInBounds i v = rcells s' ml ms A c) : RawAt (w.setCell ⟨b, i, none⟩ v) b s' F :=
  h.turn hl hse hf (fun k hk => Below.heap_setCell _ _ _ _ hk) (fun ml ms A c hb => by rw [heap_setCell_cells hb, hc])
end
/-- the cells of a disk -/
structure Nine (w : World) (b : Nat) (s : Raw) (ml ms : Nat) (A : Option Addr) (c : Nat) : Prop where
  c0 : w.cell? ⟨b, 0, none⟩ = some (.int .i64 s.room)
  c1 : w.cell? ⟨b, 1, none⟩ = some (.map (some ml))
  c2 : w.cell? ⟨b, 2, none⟩ = some (.map (some ms))
  c3 : w.cell? ⟨b, 3, none⟩ = some (.int .i64 s.taken)
  c4 : w.cell? ⟨b, 4, none⟩ = some (.slice A s.first.length c)
  c5 : w.cell? ⟨b, 5, none⟩ = some (.int .i64 s.waiting)
  c6 : w.cell? ⟨b, 6, none⟩ = some (.int .i64 s.left)
  c7 : w.cell? ⟨b, 7, none⟩ = some (.int .u64 s.keep)
  c8 : w.cell? ⟨b, 8, none⟩ = some (.bool s.down)
theorem nine {w : World} {b : Nat} {s : Raw} {ml ms : Nat} {A : Option Addr} {c : Nat} (hb : w.heap[b]? = some (.cells (rcells s ml ms A c) 73 (0, 0))) : Nine w b s ml ms A c := by
  constructor <;> (rw [cell_of_cells hb]; rfl)

/-! ### what is asked -/
set_option maxRecDepth 100000 in
theorem down_any (w : World) (b : Nat) (s : Raw) (F : List Nat) (h : RawAt w b s F) : Calls Try.prog 21 #[.pointer (some ⟨b, 0, none⟩)] w fun r w' => r = .returned (.bool s.down) ∧ w' = w := by
  obtain ⟨ml, ms, A, c, hb, -⟩ := h
  have c8 := (nine hb).c8
  clear hb
  go_enter Try.func21, Try.ntmps21
  go_wp2
  go_ret
  exact ⟨rfl, rfl⟩
set_option maxRecDepth 100000 in
theorem waiting_any (w : World) (b : Nat) (s : Raw) (F : List Nat) (h : RawAt w b s F) : Calls Try.prog 22 #[.pointer (some ⟨b, 0, none⟩)] w fun r w' => r = .returned (.int .i64 s.waiting) ∧ w' = w := by
  obtain ⟨ml, ms, A, c, hb, -⟩ := h
  have c5 := (nine hb).c5
  clear hb
  go_enter Try.func22, Try.ntmps22
  go_wp2
  go_ret
  exact ⟨rfl, rfl⟩
set_option maxRecDepth 100000 in
theorem takenp_any (w : World) (b : Nat) (s : Raw) (F : List Nat) (h : RawAt w b s F) : Calls Try.prog 23 #[.pointer (some ⟨b, 0, none⟩)] w fun r w' => r = .returned (.int .i64 (if s.down then 0 else s.taken)) ∧ w' = w := by
  obtain ⟨ml, ms, A, c, hb, -⟩ := h
  have c8 := (nine hb).c8
  have c3 := (nine hb).c3
  clear hb
  cases hd : s.down <;> rw [hd] at c8
  · go_enter Try.func23, Try.ntmps23
    go_wp2
    go_ret
    exact ⟨by simp, rfl⟩
  · go_enter Try.func23, Try.ntmps23
    go_wp2
    go_ret
    exact ⟨by simp, rfl⟩
set_option maxRecDepth 100000 in
theorem start_any (w : World) (b : Nat) (s : Raw) (F : List Nat) (h : RawAt w b s F) : Calls Try.prog 28 #[.pointer (some ⟨b, 0, none⟩)] w fun r w' => r = .returned (.tuple #[]) ∧ RawAt w' b { s with down := false } F ∧ Turns F F w w' := by
  have HR := Lib.hid h
  obtain ⟨ml, ms, A, c, hb, -⟩ := h
  have c8 := (nine hb).c8
  have f8 := unfrozen_of_cells hb 8
  clear hb
  go_enter Try.func28, Try.ntmps28
  go_wp2
  go_end0
  exact ⟨rfl, HR.out.set 8 _ _ rfl rfl rfl (fun _ _ _ _ => rfl), (Turns.refl F w).setCell HR.out.mem _⟩
set_option maxRecDepth 100000 in
theorem arm_p (w : World) (b : Nat) (s : Raw) (F : List Nat) (h : RawAt w b s F) (at_ keep : Int) : Calls Try.prog 27 #[.pointer (some ⟨b, 0, none⟩), .agg #[.int .i64 at_, .int .u64 keep]] w
    fun r w' => r = .returned (.tuple #[]) ∧ RawAt w' b { s with left := if at_ < 1 then 0 else at_, keep := if at_ < 1 then 0 else keep } F ∧ Turns F F w w' := by
  have HR := Lib.hid h
  obtain ⟨ml, ms, A, c, hb, -⟩ := h
  have hlt : b < w.heap.size := HR.out.lt
  have c6 := (nine hb).c6
  have c7 := (nine hb).c7
  have f6 := unfrozen_of_cells hb 6
  have f7 := unfrozen_of_cells hb 7
  clear hb
  by_cases ha : at_ < 1
  · simp only [ha, if_true]
    have hd := decide_eq_true ha
    go_enter Try.func27, Try.ntmps27
    go_wp2
    go_end0
    exact ⟨rfl, ((HR.out.set 6 (.int .i64 0) { s with left := 0 } rfl rfl rfl (fun _ _ _ _ => rfl)).set 7 (.int .u64 0) { s with left := 0, keep := 0 } rfl rfl rfl (fun _ _ _ _ => rfl)).below ((Below.refl _ _).alloc (Nat.le_refl _) _), (((Turns.refl F w).setCell HR.out.mem _).setCell HR.out.mem _).alloc _⟩
  · simp only [ha, if_false]
    have hd := decide_eq_false ha
    go_enter Try.func27, Try.ntmps27
    go_wp2
    go_end0
    exact ⟨rfl, ((HR.out.set 6 (.int .i64 at_) { s with left := at_ } rfl rfl rfl (fun _ _ _ _ => rfl)).set 7 (.int .u64 keep) { s with left := at_, keep := keep } rfl rfl rfl (fun _ _ _ _ => rfl)).below ((Below.refl _ _).alloc (Nat.le_refl _) _), (((Turns.refl F w).setCell HR.out.mem _).setCell HR.out.mem _).alloc _⟩
set_option maxRecDepth 100000 in
/-- is it a path? -/
theorem isPath_any (w : World) (p : ByteArray) (hp : p.size ≤ maxLen) : Calls Try.prog 43 #[.string p] w fun r w' => r = .returned (.bool (pathB p)) ∧ w' = w := by
  by_cases h1 : p = ByteArray.empty
  · subst h1
    go_enter Try.func43, Try.ntmps43
    go_wp2
    go_ret
    exact ⟨rfl, rfl⟩
  · have hz : 1 ≤ p.size := by
      rcases Nat.eq_zero_or_pos p.size with h | h
      · exact absurd (ByteArray.size_eq_zero_iff.1 h) h1
      · exact h
    have hn : p.toList ≠ [] := by
      rw [data_toList]
      exact fun e => h1 (WideShapes.bytes_inj e)
    have hE : p.toList.isEmpty = false := by simpa using hn
    have hN : (p.toList = []) = False := eq_false hn
    clear hn
    clear h1
    by_cases h2 : p.size ≤ 255
    · have h2' : (p.size : Int) ≤ 255 := by omega
      have HP := Lib.hid (show pathB p = true by simp [pathB, hz, h2])
      go_enter Try.func43, Try.ntmps43
      go_wp2
      go_ret
      exact ⟨by rw [HP.out]; first | rfl | simp, rfl⟩
    · have h2' : ¬ (p.size : Int) ≤ 255 := by omega
      have HP := Lib.hid (show pathB p = false by simp [pathB, h2])
      go_enter Try.func43, Try.ntmps43
      go_wp2
      go_ret
      exact ⟨by rw [HP.out]; first | rfl | simp, rfl⟩
set_option maxHeartbeats 1000000 in
set_option maxRecDepth 100000 in
theorem takes_any (w : World) (b : Nat) (s : Raw) (F : List Nat) (h : RawAt w b s F) (p : ByteArray) (hp : p.size ≤ maxLen) (hz : takes s.seen p ≤ 1000000000) : Calls Try.prog 44 #[.pointer (some ⟨b, 0, none⟩), .string p] w fun r w' => r = .returned (.int .i64 (takes s.seen p)) ∧ Below w.heap.size w w' := by
  obtain ⟨ml, ms, A, c, hb, _, hm, _⟩ := h
  have c2 := (nine hb).c2
  clear hb
  have HM := Lib.hid hm
  clear hm
  cases hf : findF s.seen p with
  | none =>
    have e : takes s.seen p = 0 := by simp [takes, hf]
    rw [e]
    go_enter Try.func44, Try.ntmps44
    go_wp2_with (at_lookup; refine wpList_look_none _ rfl _ _ rfl ms s.seen rfl HM.out p rfl hp hf ?_)
    go_ret
    exact ⟨rfl, (Below.refl _ w).alloc (Nat.le_refl _) _⟩
  | some t =>
    have e : (takes s.seen p : Int) = (p.size : Int) + (t.size : Int) := by simp [takes, hf]
    rw [e]
    have hw : IntKind.i64.wrap ((p.size : Int) + (t.size : Int)) = (p.size : Int) + (t.size : Int) := by rw [IntKind.wrap_i64]; omega
    go_enter Try.func44, Try.ntmps44
    go_wp2_with (at_lookup; refine wpList_look_some _ rfl _ _ rfl ms s.seen rfl HM.out p t rfl hp hf ?_; intro ht)
    go_ret
    exact ⟨rfl, (Below.refl _ w).alloc (Nat.le_refl _) _⟩
set_option maxHeartbeats 1000000 in
set_option maxRecDepth 100000 in
theorem read_any (w : World) (b : Nat) (s : Raw) (F : List Nat) (h : RawAt w b s F) (p : ByteArray) (hp : p.size ≤ maxLen) : Calls Try.prog 26 #[.pointer (some ⟨b, 0, none⟩), .string p] w
    fun r w' => r = .returned (.tuple #[.string (if s.down then ByteArray.empty else texOf (findF s.seen p)), .int .i64 (if s.down then 8 else if (findF s.seen p).isSome then 0 else 5)]) ∧ Below w.heap.size w w' := by
  obtain ⟨ml, ms, A, c, hb, _, hm, -⟩ := h
  have c2 := (nine hb).c2
  have c8 := (nine hb).c8
  clear hb
  have HM := Lib.hid hm
  clear hm
  cases hd : s.down <;> rw [hd] at c8
  · cases hf : findF s.seen p with
    | none =>
      go_enter Try.func26, Try.ntmps26
      go_wp2_with (at_lookup; refine wpList_look_none _ rfl _ _ rfl ms s.seen rfl HM.out p rfl hp hf ?_)
      go_ret2
      exact ⟨rfl, (Below.refl _ w).alloc (Nat.le_refl _) _⟩
    | some t =>
      go_enter Try.func26, Try.ntmps26
      go_wp2_with (at_lookup; refine wpList_look_some _ rfl _ _ rfl ms s.seen rfl HM.out p t rfl hp hf ?_; intro ht)
      go_ret2
      exact ⟨rfl, (Below.refl _ w).alloc (Nat.le_refl _) _⟩
  · go_enter Try.func26, Try.ntmps26
    go_wp2
    go_ret2
    exact ⟨rfl, Below.refl _ w⟩

set_option maxHeartbeats 1000000 in
set_option maxRecDepth 100000 in
theorem cutComes_any (w : World) (b : Nat) (s : Raw) (F : List Nat) (h : RawAt w b s F) (h0 : 0 ≤ s.left) (hmx : s.left ≤ 9223372036854775807) : Calls Try.prog 36 #[.pointer (some ⟨b, 0, none⟩)] w
    fun r w' => r = .returned (.bool (decide (s.left = 1))) ∧ RawAt w' b { s with left := if s.left = 0 then 0 else s.left - 1 } F ∧ Turns F F w w' := by
  have HR := Lib.hid h
  obtain ⟨ml, ms, A, c, hb, -⟩ := h
  have c6 := (nine hb).c6
  have f6 := unfrozen_of_cells hb 6
  clear hb
  by_cases hl : s.left = 0
  · have e : { s with left := if s.left = 0 then 0 else s.left - 1 } = s := by rw [if_pos hl]; cases s; simp at hl; subst hl; rfl
    rw [e]
    rw [hl] at c6 ⊢
    clear e
    go_enter Try.func36, Try.ntmps36
    go_wp2
    go_ret
    exact ⟨rfl, HR.out, Turns.refl F w⟩
  · rw [if_neg hl]
    have hw : IntKind.i64.wrap (s.left - 1) = s.left - 1 := by rw [IntKind.wrap_i64]; omega
    have h1 : decide (s.left = 1) = decide (s.left - 1 = 0) := by
      by_cases h1 : s.left = 1
      · simp [h1]
      · rw [decide_eq_false h1, decide_eq_false (by omega)]
    rw [h1]
    have HX := Lib.hid h1
    clear h1
    generalize hL : s.left - 1 = L at *
    go_enter Try.func36, Try.ntmps36
    go_wp2
    go_ret
    exact ⟨rfl, HR.out.set 6 (.int .i64 L) { s with left := L } rfl rfl rfl (fun _ _ _ _ => rfl), (Turns.refl F w).setCell HR.out.mem _⟩
end Go.Proofs.Ytdgfbpkpfmdjjaa.Hk
