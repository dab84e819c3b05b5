/-
  The document's Taken, path and call (layer 7).
-/
import Derived.Test.YtdgfbpkpfmdjjaaVc
namespace Go.Proofs.Ytdgfbpkpfmdjjaa.Hk
open Go.RowKit Hr Hw
set_option linter.unusedVariables false

theorem takenF_succ {l : List Fl} {i : Nat} (hi : i < l.length) : takenF (l.take (i + 1)) = takenF (l.take i) + (l.getD i default).1.size + (l.getD i default).2.size := by
  rw [List.take_add_one, List.getElem?_eq_getElem hi]
  simp only [takenF, Option.toList_some, List.map_append, List.map_cons, List.map_nil, List.sum_append, List.sum_cons, List.sum_nil, List.getD, List.getElem?_eq_getElem hi, Option.getD_some]
  omega
theorem takenF_le (l : List Fl) (i : Nat) : takenF (l.take i) ≤ takenF l := by
  have h : takenF (l.take i ++ l.drop i) = takenF (l.take i) + takenF (l.drop i) := by simp only [takenF, List.map_append, List.sum_append]
  rw [List.take_append_drop] at h
  omega
set_option maxHeartbeats 1000000 in
set_option maxRecDepth 100000 in
theorem taken_any (w : World) (B : Nat) (A : Option Addr) (c : Nat) (l : List Fl) (h : Fls w B A l) (hB : B ≤ w.heap.size) (hl : l.length ≤ 100000) (ht : takenF l ≤ 4611686018427387904) :
    Calls Try.prog 19 #[.slice A l.length c] w fun e w' => e = .returned (.int .i64 (takenF l : Nat)) ∧ Below w.heap.size w w' := by
  have HP := Lib.hid h
  clear h
  go_enter Try.func19, Try.ntmps19
  go_wp2
  go_loopg [3, 4] l.length (fun g n i wr => ∃ k : Nat, k ≤ l.length ∧ g = l.length - k ∧ i = .int .i64 k ∧ n = .int .i64 (takenF (l.take k) : Nat) ∧ Below w.heap.size w wr)
  case atStart => exact ⟨0, Nat.zero_le _, rfl, rfl, rfl, Below.refl _ _⟩
  case round =>
    obtain ⟨k, hk, rfl, rfl, rfl, hbl⟩ := hrel
    by_cases hlt : k < l.length
    · have h1 : (k : Int) < l.length := by omega
      have h0 : (0 : Int) ≤ k := by omega
      obtain ⟨ad, rfl, hB1, hc⟩ := (HP.out.below (hbl.mono hB)) k hlt
      have c0 : wr.cell? (ad.add (k * 2)) = some (.string (l.getD k default).1) := hc 0 (by omega)
      have c1 : wr.cell? ⟨(ad.add (k * 2)).block, (ad.add (k * 2)).off + 1, none⟩ = some (.string (l.getD k default).2) := hc 1 (by omega)
      have hs := takenF_succ hlt
      have hm := takenF_le l (k + 1)
      have HS := Lib.hid hs
      have hw1 : IntKind.i64.wrap ((takenF (l.take k) : Int) + ((l.getD k default).1.size : Int)) = (takenF (l.take k) : Int) + ((l.getD k default).1.size : Int) := by rw [IntKind.wrap_i64]; omega
      have hw2 : IntKind.i64.wrap ((takenF (l.take k) : Int) + ((l.getD k default).1.size : Int) + ((l.getD k default).2.size : Int)) = (takenF (l.take k) : Int) + ((l.getD k default).1.size : Int) + ((l.getD k default).2.size : Int) := by rw [IntKind.wrap_i64]; omega
      have HB := Lib.hid hbl
      generalize (l.getD k default).1 = x at *
      generalize (l.getD k default).2 = y at *
      generalize takenF (l.take k) = n at *
      clear hs hm hbl hc
      go_wp2_with fail
      refine wp_region_still_lit (by kernel_rfl) (by kernel_rfl) ?_
      change wpStill _ _ (World.drew _) (fun a' => Exit.inBlock _ _ _ a' (World.drew _)) _ _
      iterate 16 ((with_reducible refine wpStill_step ?_); intro K hK; go_simp; refine hK _ ?_; clear hK K)
      refine wpStill_nil ?_
      go_wp2
      go_roundg (l.length - (k + 1))
      case rel => exact ⟨k + 1, by omega, rfl, by go_num, by rw [HS.out]; simp, HB.out.drew⟩
      case measure => omega
    · obtain rfl : k = l.length := by omega
      rw [List.take_length]
      go_wp2
      go_ret
      exact ⟨rfl, hbl⟩

def pathB (s : ByteArray) : Bool := decide (1 ≤ s.size) && decide (s.size ≤ 255)
set_option maxHeartbeats 1000000 in
set_option maxRecDepth 100000 in
theorem path_any (w : World) (s : ByteArray) (hs : s.size ≤ maxLen) : Calls Try.prog 33 #[.string s] w fun e w' => e = .returned (.bool (pathB s)) ∧ w' = w := by
  by_cases h1 : 1 ≤ s.size
  · have h1' : (1 : Int) ≤ s.size := by omega
    by_cases h2 : s.size ≤ 255
    · have h2' : (s.size : Int) ≤ 255 := by omega
      have HP := Lib.hid (show pathB s = true by simp [pathB, h1, h2])
      go_enter Try.func33, Try.ntmps33
      go_wp2
      go_ret
      exact ⟨by rw [HP.out]; first | rfl | simp, rfl⟩
    · have h2' : ¬ (s.size : Int) ≤ 255 := by omega
      have HP := Lib.hid (show pathB s = false by simp [pathB, h2])
      go_enter Try.func33, Try.ntmps33
      go_wp2
      go_ret
      exact ⟨by rw [HP.out]; first | rfl | simp, rfl⟩
  · have h1' : ¬ (1 : Int) ≤ s.size := by omega
    have HP := Lib.hid (show pathB s = false by simp [pathB, h1])
    go_enter Try.func33, Try.ntmps33
    go_wp2
    go_ret
    exact ⟨by rw [HP.out]; first | rfl | simp, rfl⟩
end Go.Proofs.Ytdgfbpkpfmdjjaa.Hk
