/-
  The program's Seen: Has, Add, Len (layer 6).
-/
import Derived.Test.YtmfejibllhccaaaXa
namespace Go.Proofs.Ytmfejibllhccaaa.Hx
open Go.RowKit Hw
set_option linter.unusedVariables false

/-- a key -/
def ky (k : Int) : Lit := .int .i64 k
theorem ky_key (k : Int) (h : (Lit.int .i64 k).wf = true) : keyOf Try.prog 3 (.int .i64 k) = some (ky k) := Maps.keyOf_int_mk Try.underlying3 h
theorem ky_ne {k k' : Int} (h : k ≠ k') : ky k ≠ ky k' := fun e => h (by injection e)
theorem klaw : Maps.Keyed Try.prog 3 := Maps.int_keyed Try.underlying3
theorem zeroU (w : World) : (zeroValue 66).run Try.prog w = .ok (.agg #[]) w := by kernel_rfl
theorem eq_map_none (w : World) : (binOp .eql 36 (.map none) (.map none)).run Try.prog w = .ok (.bool true) w := by kernel_rfl
theorem eq_map_some (w : World) (m : Nat) : (binOp .eql 36 (.map (some m)) (.map none)).run Try.prog w = .ok (.bool false) w := by kernel_rfl
theorem eq_func_some (w : World) (f : Fn) (a b : Array Value) : (binOp .eql 47 (.func f a b) .nilFunc).run Try.prog w = .ok (.bool false) w := by kernel_rfl
/-- in block b a Seen lies that holds the keys ks -/
def SeenAt (w : World) (b : Nat) (ks : List Int) (F : List Nat) : Prop :=
  ∃ t, (w.heap[b]? = some (.cells #[.map none, .slice none 0 0] t (0, 0)) ∧ ks = [] ∧ F = [b]) ∨
    ∃ m n D, w.heap[b]? = some (.cells #[.map (some m), .slice none 0 0] t (0, 0)) ∧ w.ownsMap (H := Unit) Try.prog 3 unitElem m n D ∧ n = ks.length ∧ (∀ k, Maps.has D (ky k) = decide (k ∈ ks)) ∧ Maps.size D = ks.length ∧ m ≠ b ∧ F = [b, m]
section
variable {w w' : World} {b : Nat} {ks : List Int} {F : List Nat}
theorem SeenAt.lies (h : SeenAt w b ks F) : Lies F w := by
  obtain ⟨t, ⟨hb, _, rfl⟩ | ⟨m, n, D, hb, ho, _, _, _, _, rfl⟩⟩ := h
  · intro k hk
    obtain rfl : k = b := by simpa using hk
    exact (Array.getElem?_eq_some_iff.1 hb).1
  · intro k hk
    rcases List.mem_cons.1 hk with rfl | hk
    · exact (Array.getElem?_eq_some_iff.1 hb).1
    · obtain rfl : k = m := by simpa using hk
      exact ho.lt
theorem SeenAt.same (h : SeenAt w b ks F) (hs : Same F w w') : SeenAt w' b ks F := by
  obtain ⟨t, ⟨hb, h1, rfl⟩ | ⟨m, n, D, hb, ho, h1, h2, h3, h4, rfl⟩⟩ := h
  · exact ⟨t, .inl ⟨(hs b (by simp)).trans hb, h1, rfl⟩⟩
  · refine ⟨t, .inr ⟨m, n, D, (hs b (by simp)).trans hb, ?_, h1, h2, h3, h4, rfl⟩⟩
    obtain ⟨es, clock, hm, r⟩ := ho
    exact ⟨es, clock, (hs m (by simp)).trans hm, r⟩
end

set_option maxHeartbeats 1000000 in
set_option maxRecDepth 100000 in
theorem has_any (w : World) (b : Nat) (F : List Nat) (ks : List Int) (k : Int) (h : SeenAt w b ks F) (hk : (Lit.int .i64 k).wf = true) :
    Calls Try.prog 18 #[.pointer (some ⟨b, 0, none⟩), .int .i64 k] w fun e w' => e = .returned (.bool (decide (k ∈ ks))) ∧ Below w.heap.size w w' := by
  have hkey := ky_key k hk
  obtain ⟨t, ⟨hb, rfl, rfl⟩ | ⟨m, n, D, hb, ho, h1, h2, h3, h4, rfl⟩⟩ := h
  · have c0 : w.cell? ⟨b, 0, none⟩ = some (.map none) := by rw [cell_of_cells hb]; rfl
    have hl := Maps.look_nil (w := w) true klaw Try.underlying36 (zeroU w) hkey
    have hza := fun w => zeroU w
    clear hb hk hkey
    go_enter Try.func18, Try.ntmps18
    go_wp2
    go_ret
    exact ⟨rfl, (Below.refl _ w).alloc (Nat.le_refl _) _⟩
  · have c0 : w.cell? ⟨b, 0, none⟩ = some (.map (some m)) := by rw [cell_of_cells hb]; rfl
    have h2k := h2 k
    have HO := Lib.hid ho
    have hza := fun w => zeroU w
    clear hb hk ho h2 h3 h4 h1
    go_enter Try.func18, Try.ntmps18
    go_wp2_with (at_lookup; refine wpList_lookup_own_unit _ rfl _ _ 36 rfl 3 66 klaw Try.underlying36 (zeroU _) m n D rfl HO.out _ _ rfl hkey ?_)
    go_ret
    exact ⟨rfl, (Below.refl _ w).alloc (Nat.le_refl _) _⟩

theorem same_of_below {F : List Nat} {w w' : World} (h : Below w.heap.size w w') (hl : Lies F w) : Same F w w' := fun k hk => h.block k (hl k hk)
theorem has_put {D : DataW Unit} {ks : List Int} {k : Int} (hD : Maps.IsMap D) (h : ∀ k, Maps.has D (ky k) = decide (k ∈ ks)) (hk : WideAt.IsKeyLit (ky k)) : ∀ k', Maps.has (D.put (ky k) (.agg [])) (ky k') = decide (k' ∈ ks ++ [k]) := fun k' => by
  by_cases e : k' = k
  · subst e; rw [Maps.has_put_same hD hk]; simp
  · rw [Maps.has_put_other (ky_ne e), h k']; simp [e]

set_option maxHeartbeats 1000000 in
set_option maxRecDepth 100000 in
theorem add_old (w : World) (b : Nat) (F : List Nat) (ks : List Int) (k : Int) (h : SeenAt w b ks F) (hk : (Lit.int .i64 k).wf = true) (hin : k ∈ ks) :
    Calls Try.prog 15 #[.pointer (some ⟨b, 0, none⟩), .int .i64 k] w fun e w' => e = .returned (.bool false) ∧ Below w.heap.size w w' := by
  have HC := Lib.hid (has_any w b F ks k h hk)
  rw [decide_eq_true hin] at HC
  clear h hk hin
  go_enter Try.func15, Try.ntmps15
  go_wp2_with fail
  refine HC.out.mono ?_
  rintro e w2 ⟨rfl, hb⟩
  go_wp2
  go_ret
  exact ⟨rfl, hb⟩

set_option maxHeartbeats 1000000 in
set_option maxRecDepth 100000 in
theorem add_new (w : World) (b : Nat) (F : List Nat) (ks : List Int) (k : Int) (h : SeenAt w b ks F) (hk : (Lit.int .i64 k).wf = true) (hin : k ∉ ks) (hl : ks.length ≤ 100000) :
    Calls Try.prog 15 #[.pointer (some ⟨b, 0, none⟩), .int .i64 k] w fun e w' => e = .returned (.bool true) ∧ ∃ F', SeenAt w' b (ks ++ [k]) F' ∧ Turns F F' w w' := by
  have HC := Lib.hid (has_any w b F ks k h hk)
  rw [decide_eq_false hin] at HC
  have hkey := ky_key k hk
  have hkl : WideAt.IsKeyLit (ky k) := trivial
  have HKL := Lib.hid hkl
  have HSL := Lib.hid h
  have hmm := @run_makeMap Try.prog
  have HIN := Lib.hid hin
  clear h hk hin hkl
  go_enter Try.func15, Try.ntmps15
  go_wp2_with fail
  refine HC.out.mono ?_
  rintro e w2 ⟨rfl, hb2⟩
  have hs2 := HSL.out.same (same_of_below hb2 HSL.out.lies)
  have HB2 := Lib.hid hb2
  have HL := Lib.hid HSL.out.lies
  clear hb2 HC HSL
  have hq0 := eq_map_none
  have hq1 := eq_map_some
  obtain ⟨t, ⟨hb, rfl, rfl⟩ | ⟨m, n, D, hb, ho, h1, h2, h3, h4, rfl⟩⟩ := hs2
  · have hblt : b < w2.heap.size := (Array.getElem?_eq_some_iff.1 hb).1
    have c0 : w2.cell? ⟨b, 0, none⟩ = some (.map none) := by rw [cell_of_cells hb]; rfl
    have f0 : w2.frozen? ⟨b, 0, none⟩ = false := unfrozen_of_cells hb 0
    have HBB := Lib.hid hb
    have hmd : ((w2.setCell ⟨b, 0, none⟩ (.map (some w2.heap.size))).alloc (.map #[] 0)).ownsMap (H := Unit) Try.prog 3 unitElem w2.heap.size 0 (.map []) := by
      have := World.ownsMap_made (H := Unit) (w2.setCell ⟨b, 0, none⟩ (.map (some w2.heap.size))) Try.prog 3 unitElem
      rwa [show (w2.setCell ⟨b, 0, none⟩ (.map (some w2.heap.size))).heap.size = w2.heap.size by simp [World.setCell]] at this
    have HMD := Lib.hid hmd
    clear hb hmd
    go_wp2_with (at_mapUpdate; refine wpList_mapUpdate_own _ rfl _ _ _ 36 rfl 3 66 klaw Try.underlying36 _ w2.heap.size 0 _ rfl HMD.out (by unfold maxLen; omega) _ _ _ rfl rfl hkey _ [] unitElem_mk ?_; intro w3 ho3 hg3)
    go_ret
    have hblt3 : b < w.heap.size := HL.out b (by simp)
    have hb3 : w3.heap[b]? = some (.cells #[.map (some w2.heap.size), .slice none 0 0] t) := by
      refine (hg3.block b (by simp [World.setCell]; omega) (by simp; omega)).trans ?_
      refine (Below.heap_alloc _ _ _ (by simp [World.setCell]; omega)).trans ?_
      exact heap_setCell_cells HBB.out 0 _
    refine ⟨rfl, [b, w2.heap.size], ⟨t, .inr ⟨w2.heap.size, 1, _, hb3, ho3, rfl, has_put Maps.isMap_empty (fun k => by simp [Maps.has]) HKL.out, ?_, by omega, rfl⟩⟩, ?_⟩
    · rw [Maps.size_put Maps.tidy_empty]; simp [Maps.has, Maps.size]
    · have hw2 := HB2.out.size
      have h1 : Turns [b] [b, w2.heap.size] w ((w2.setCell ⟨b, 0, none⟩ (.map (some w2.heap.size))).alloc (.map #[] 0)) := ((((Turns.of_below HB2.out).wider (G := [b]) (fun k hk => by cases hk)).to (F'' := [b, w2.heap.size]) (fun k hk => by
        rcases List.mem_cons.1 hk with rfl | hk
        · exact .inl (by simp)
        · obtain rfl : k = w2.heap.size := by simpa using hk
          exact .inr hw2)).setCell (p := ⟨b, 0, none⟩) (by simp) _).alloc _
      exact h1.grown hg3 (fun k hk => by injection hk with hk; subst hk; simp)
  · have c0 : w2.cell? ⟨b, 0, none⟩ = some (.map (some m)) := by rw [cell_of_cells hb]; rfl
    have HBB := Lib.hid hb
    have HO := Lib.hid ho
    have HH := Lib.hid (And.intro h2 (And.intro h3 h1))
    have HNE := Lib.hid h4
    have hln : n < maxLen := by unfold maxLen; omega
    have hml := ho.lt
    have HDT := Lib.hid (ho.tidy klaw)
    clear hb ho h2 h3 h4 h1
    go_wp2_with (at_mapUpdate; refine wpList_mapUpdate_own _ rfl _ _ _ 36 rfl 3 66 klaw Try.underlying36 _ m n D rfl HO.out hln _ _ _ rfl rfl hkey _ [] unitElem_mk ?_; intro w3 ho3 hg3)
    go_ret
    obtain ⟨h2, h3, h1⟩ := HH.out
    have hblt : b < w2.heap.size := (Array.getElem?_eq_some_iff.1 HBB.out).1
    refine ⟨rfl, [b, m], ⟨t, .inr ⟨m, n + 1, _, (hg3.block b hblt (fun e => HNE.out (by injection e with e; exact e.symm))).trans HBB.out, ho3, by simp [h1], has_put HDT.out.isMap h2 HKL.out, ?_, HNE.out, rfl⟩⟩, ?_⟩
    · rw [Maps.size_put HDT.out, h2 k, decide_eq_false HIN.out]; simp [h3]
    · exact (((Turns.of_below HB2.out).wider (G := [b, m]) (fun k hk => by cases hk)).to (F'' := [b, m]) (fun k hk => .inl hk)).grown hg3 (fun k hk => by injection hk with hk; subst hk; simp)

set_option maxHeartbeats 1000000 in
set_option maxRecDepth 100000 in
theorem seen_len (w : World) (b : Nat) (F : List Nat) (ks : List Int) (h : SeenAt w b ks F) (hl : ks.length ≤ 100000) :
    Calls Try.prog 20 #[.pointer (some ⟨b, 0, none⟩)] w fun e w' => e = .returned (.int .i64 ks.length) ∧ Below w.heap.size w w' := by
  obtain ⟨t, ⟨hb, rfl, rfl⟩ | ⟨m, n, D, hb, ho, h1, h2, h3, h4, rfl⟩⟩ := h
  · have c0 : w.cell? ⟨b, 0, none⟩ = some (.map none) := by rw [cell_of_cells hb]; rfl
    have c1 : w.cell? ⟨b, 1, none⟩ = some (.slice none 0 0) := by rw [cell_of_cells hb]; rfl
    have hn := fun ty => Maps.len_nil (w := w) Try.underlying36 ty
    have hn' := fun ty => Maps.len_nil (w := w.drew) Try.underlying36 ty
    clear hb
    go_enter Try.func20, Try.ntmps20
    go_wp2
    go_region
    all_goals go_wp2
    all_goals go_ret
    all_goals exact ⟨rfl, (Below.refl _ w).drew⟩
  · have c0 : w.cell? ⟨b, 0, none⟩ = some (.map (some m)) := by rw [cell_of_cells hb]; rfl
    have c1 : w.cell? ⟨b, 1, none⟩ = some (.slice none 0 0) := by rw [cell_of_cells hb]; rfl
    have hn := fun ty => ho.len Try.underlying36 ty
    have hn' := fun ty => ho.drew.len Try.underlying36 ty
    rw [h3] at hn hn'
    clear hb ho h2 h3 h4 h1
    go_enter Try.func20, Try.ntmps20
    go_wp2
    go_region
    all_goals go_wp2
    all_goals go_ret
    all_goals exact ⟨rfl, (Below.refl _ w).drew⟩
end Go.Proofs.Ytmfejibllhccaaa.Hx
