/-
  Layer 12: the functions that the laws hand to Map.
-/
import Derived.Test.YtlpidedijknohaaJh
import Derived.Test.YtlpidedijknohaaGc
namespace Go.Proofs.Ytlpidedijknohaa.Hq
open Go.RowKit Ob Hr Hj Eg
set_option linter.unusedVariables false

theorem ok_plain {w : World} {es : List Edg} {told : Nat → ByteArray} {er : Nat → Int} {f : Nat} {lb : Array Value} (hen : ∀ args w, (callFunc f args).run Try.prog w = .ok (.enter f args) w)
    (hc : ∀ i W, Below w.heap.size w W → i < es.length → Calls Try.prog f (#[.agg #[.string (es.getD i default).1, .int .i64 (es.getD i default).2]] ++ lb) W fun e W' => e = .returned (.tuple #[.string (told i), .int .i64 (er i)]) ∧ Below W.heap.size W W') :
    FnOk w.heap.size es told er f lb (fun _ W => Below w.heap.size w W) where
  enters := hen
  under := fun i W W' h hb => h.trans hb
  call := fun i W h hB hi => (hc i W h hi).mono fun e W' ⟨h1, h2⟩ => ⟨h1, h.trans (h2.mono hB), Above.of h2⟩
theorem range_ids (o : Thing) (g : ByteArray → ByteArray) : (List.range (edgesF o).length).map (fun i => g ((edgesF o).getD i default).1) = (idsF o).map g := by
  apply List.ext_getElem?
  intro i
  by_cases hi : i < (edgesF o).length
  · simp [idsF, hi, List.getD]
  · rw [List.getElem?_eq_none (by simp; omega), List.getElem?_eq_none (by simp [ids_len]; omega)]
theorem range_self (o : Thing) : (List.range (edgesF o).length).map (fun i => ((edgesF o).getD i default).1) = idsF o := by
  have := range_ids o id
  rw [List.map_id] at this
  exact this

section
variable (W : World) (x : ByteArray) (k : Int)
theorem edge_box : BoxAt (W.alloc (.cells #[.string x, .int .i64 k] 36 (0, 0))) W.heap.size 36 #[.string x, .int .i64 k] := box_new W _ _
end

set_option maxHeartbeats 1000000 in
set_option maxRecDepth 100000 in
theorem clTwice (W : World) (x : ByteArray) (k : Int) (hx : x.size ≤ 1000000) : Calls Try.prog 21 #[.agg #[.string x, .int .i64 k]] W fun e W' => e = .returned (.tuple #[.string (x ++ x), .int .i64 0]) ∧ Below W.heap.size W W' := by
  have k0 := (edge_box W x k).cell 0
  have hsz : ¬ 9223372036854775807 < x.size + x.size := by omega
  go_enter Try.func21, Try.ntmps21
  go_wp2
  go_ret2
  exact ⟨rfl, (Below.refl _ W).alloc (Nat.le_refl _) _⟩

set_option maxHeartbeats 1000000 in
set_option maxRecDepth 100000 in
theorem clMiss (W : World) (x : ByteArray) (k : Int) : Calls Try.prog 22 #[.agg #[.string x, .int .i64 k]] W fun e W' => e = .returned (.tuple #[.string ⟨#[]⟩, .int .i64 6]) ∧ Below W.heap.size W W' := by
  go_enter Try.func22, Try.ntmps22
  go_wp2
  go_ret2
  exact ⟨rfl, (Below.refl _ W).alloc (Nat.le_refl _) _⟩

set_option maxHeartbeats 1000000 in
set_option maxRecDepth 100000 in
theorem clId (W : World) (x : ByteArray) (k : Int) : Calls Try.prog 17 #[.agg #[.string x, .int .i64 k]] W fun e W' => e = .returned (.tuple #[.string x, .int .i64 0]) ∧ Below W.heap.size W W' := by
  have k0 := (edge_box W x k).cell 0
  go_enter Try.func17, Try.ntmps17
  go_wp2
  go_ret2
  exact ⟨rfl, (Below.refl _ W).alloc (Nat.le_refl _) _⟩

set_option maxHeartbeats 1000000 in
set_option maxRecDepth 100000 in
theorem clAdd (W : World) (b : Nat) (s x : ByteArray) (k : Int) (hb : W.cell? ⟨b, 0, none⟩ = some (.string s)) (hs : s.size ≤ 1000000) (hx : x.size ≤ 1000000) : Calls Try.prog 18 #[.agg #[.string x, .int .i64 k], .pointer (some ⟨b, 0, none⟩)] W fun e W' => e = .returned (.tuple #[.string (s ++ x), .int .i64 0]) ∧ Below W.heap.size W W' := by
  have k0 := (edge_box W x k).cell 0
  have kb : (W.alloc (.cells #[.string x, .int .i64 k] 36 (0, 0))).cell? ⟨b, 0, none⟩ = some (.string s) := (((Below.refl W.heap.size W).alloc (Nat.le_refl _) _).cell (World.block_lt_of_cell? _ _ hb)).trans hb
  have hsz : ¬ 9223372036854775807 < s.size + x.size := by omega
  clear hb
  go_enter Try.func18, Try.ntmps18
  go_wp2
  go_ret2
  exact ⟨rfl, (Below.refl _ W).alloc (Nat.le_refl _) _⟩

set_option maxHeartbeats 1000000 in
set_option maxRecDepth 100000 in
theorem clAddN (W : World) (b : Nat) (s x : ByteArray) (k : Int) (hb : W.cell? ⟨b, 0, none⟩ = some (.string s)) (hs : s.size ≤ 1000000) (hx : x.size ≤ 1000000) : Calls Try.prog 20 #[.agg #[.string x, .int .i64 k], .pointer (some ⟨b, 0, none⟩)] W fun e W' => e = .returned (.tuple #[.string (s ++ x), .int .i64 0]) ∧ Below W.heap.size W W' := by
  have k0 := (edge_box W x k).cell 0
  have kb : (W.alloc (.cells #[.string x, .int .i64 k] 36 (0, 0))).cell? ⟨b, 0, none⟩ = some (.string s) := (((Below.refl W.heap.size W).alloc (Nat.le_refl _) _).cell (World.block_lt_of_cell? _ _ hb)).trans hb
  have hsz : ¬ 9223372036854775807 < s.size + x.size := by omega
  clear hb
  go_enter Try.func20, Try.ntmps20
  go_wp2
  go_ret2
  exact ⟨rfl, (Below.refl _ W).alloc (Nat.le_refl _) _⟩
theorem cut_add (s x : ByteArray) : (s ++ x).extract s.size (s ++ x).size = x := by
  refine bl_inj ?_
  rw [Hg.bl_drop, bl_add, List.drop_append_of_le_length (by rw [bl_length]; exact Nat.le_refl _), List.drop_of_length_le (by rw [bl_length]; exact Nat.le_refl _), List.nil_append]

set_option maxHeartbeats 1000000 in
set_option maxRecDepth 100000 in
theorem clCut (W : World) (b : Nat) (s x : ByteArray) (k : Int) (hb : W.cell? ⟨b, 0, none⟩ = some (.string s)) (hs : s.size ≤ 1000000) (hx : x.size ≤ 1000000) : Calls Try.prog 19 #[.agg #[.string (s ++ x), .int .i64 k], .pointer (some ⟨b, 0, none⟩)] W fun e W' => e = .returned (.tuple #[.string x, .int .i64 0]) ∧ Below W.heap.size W W' := by
  have k0 := (edge_box W (s ++ x) k).cell 0
  have kb : (W.alloc (.cells #[.string (s ++ x), .int .i64 k] 36 (0, 0))).cell? ⟨b, 0, none⟩ = some (.string s) := (((Below.refl W.heap.size W).alloc (Nat.le_refl _) _).cell (World.block_lt_of_cell? _ _ hb)).trans hb
  have hsl := fun U => Hg.slice_from (s ++ x) s.size (s.size : Int) rfl (by rw [ByteArray.size_append]; omega) U
  rw [cut_add] at hsl
  generalize s ++ x = y at *
  clear hb
  go_enter Try.func19, Try.ntmps19
  go_wp2
  go_ret2
  exact ⟨rfl, (Below.refl _ W).alloc (Nat.le_refl _) _⟩
end Go.Proofs.Ytlpidedijknohaa.Hq
