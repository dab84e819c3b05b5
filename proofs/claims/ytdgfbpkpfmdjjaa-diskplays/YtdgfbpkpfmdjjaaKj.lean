/-
  The program's disk: List (layer 7).
-/
import Derived.Test.YtdgfbpkpfmdjjaaKi
import Derived.Sort.OwnSorted
import Derived.Lib.OwnBridge
namespace Go.Proofs.Ytdgfbpkpfmdjjaa.Hk
open Go.RowKit Hr Hw Ht
set_option linter.unusedVariables false

theorem str_beq' {a b : ByteArray} (h : a = b) : (a.toList == b.toList) = true := by rw [h]; simp
set_option maxRecDepth 100000 in
theorem liteHas_any (w : World) (p pre : ByteArray) (hp : p.size ≤ maxLen) (hq : pre.size ≤ maxLen) : Calls Try.prog 49 #[.string p, .string pre] w fun r w' => r = .returned (.bool (beginsB p pre)) ∧ w' = w := by
  by_cases hsz : pre.size ≤ p.size
  · have hsz' : (pre.size : Int) ≤ p.size := by omega
    have hto := slice_to p pre.size hsz
    by_cases he : p.extract 0 pre.size = pre
    · have HB := Lib.hid (begins_yes hsz he)
      rw [he] at hto
      have hq' := str_beq' (rfl : pre = pre)
      clear he
      go_enter Try.func49, Try.ntmps49
      go_wp2
      go_ret
      exact ⟨by rw [HB.out]; first | rfl | simp, rfl⟩
    · have HB := Lib.hid (show beginsB p pre = false by simpa using begins_no he)
      have hq := str_bne he
      clear he
      go_enter Try.func49, Try.ntmps49
      go_wp2
      go_ret
      exact ⟨by rw [HB.out]; first | rfl | simp, rfl⟩
  · have hsz' : ¬ (pre.size : Int) ≤ p.size := by omega
    have HB := Lib.hid (show beginsB p pre = false by simpa using begins_short hsz)
    go_enter Try.func49, Try.ntmps49
    go_wp2
    go_ret
    exact ⟨by rw [HB.out]; first | rfl | simp, rfl⟩
set_option maxRecDepth 100000 in
theorem has_any (w : World) (p pre : ByteArray) (hp : p.size ≤ maxLen) (hq : pre.size ≤ maxLen) : Calls Try.prog 40 #[.string p, .string pre] w fun r w' => r = .returned (.bool (beginsB p pre)) ∧ w' = w := by
  have HC := Lib.hid (liteHas_any w p pre hp hq)
  go_enter Try.func40, Try.ntmps40
  go_wp2_with fail
  refine HC.out.mono ?_
  rintro r w ⟨rfl, rfl⟩
  go_wp2
  go_ret
  exact ⟨rfl, rfl⟩

/-! ### sorted -/
theorem flat_scells (l : List ByteArray) : l.flatMap scells = (l.map (·.data.toList)).map Proofs.encStr := by
  rw [Lib.map_encStr]
  induction l with
  | nil => rfl
  | cons x l ih => rw [List.flatMap_cons, ih]; rfl
theorem eq_of_perm {l₁ l₂ : List (List UInt8)} (hp : l₁.Perm l₂) (h1 : l₁.Pairwise (· < ·)) (h2 : l₂.Pairwise (· < ·)) : l₁ = l₂ := by
  induction l₁ generalizing l₂ with
  | nil => exact (List.Perm.nil_eq hp)
  | cons a r ih =>
    cases l₂ with
    | nil => exact absurd hp.length_eq (by simp)
    | cons b s =>
      obtain ⟨a1, a2⟩ := List.pairwise_cons.1 h1
      obtain ⟨b1, b2⟩ := List.pairwise_cons.1 h2
      have hab : a = b := by
        rcases List.mem_cons.1 (hp.mem_iff.1 (by simp : a ∈ a :: r)) with e | ha
        · exact e
        · rcases List.mem_cons.1 (hp.mem_iff.2 (by simp : b ∈ b :: s)) with e | hb
          · exact e.symm
          · exact absurd (List.lt_trans (a1 b hb) (b1 a ha)) (List.lt_irrefl a)
      subst hab
      rw [ih (List.Perm.cons_inv hp) a2 b2]
theorem sort_eq {xs L : List ByteArray} (hp : xs.Perm L) (hL : L.Pairwise fun a b => lessS a b = true) : (xs.map (·.data.toList)).mergeSort (fun x y => decide (x ≤ y)) = L.map (·.data.toList) := by
  have hL' : (L.map (·.data.toList)).Pairwise (· < ·) := by
    rw [List.pairwise_map]
    refine hL.imp fun {a b} h => ?_
    unfold lessS at h
    rw [bytesLess_eq, data_toList, data_toList] at h
    simpa using h
  have hpm : ((xs.map (·.data.toList)).mergeSort (fun x y => decide (x ≤ y))).Perm (L.map (·.data.toList)) := (List.mergeSort_perm _ _).trans (hp.map _)
  refine eq_of_perm hpm ?_ hL'
  have h1 : ((xs.map (·.data.toList)).mergeSort (fun x y => decide (x ≤ y))).Pairwise (fun a b => decide (a ≤ b) = true) := List.pairwise_mergeSort (fun a b c h1 h2 => by
      simp only [decide_eq_true_eq] at *
      exact List.le_trans h1 h2) (fun a b => by
      simp only [Bool.or_eq_true, decide_eq_true_eq]
      exact List.le_total a b) _
  have hnd : (L.map (·.data.toList)).Nodup := hL'.imp fun {a b} h e => by rw [e] at h; exact List.lt_irrefl _ h
  have h2 : ((xs.map (·.data.toList)).mergeSort (fun x y => decide (x ≤ y))).Pairwise (· ≠ ·) := hpm.nodup_iff.2 hnd
  exact (List.pairwise_and_iff.2 ⟨h1, h2⟩).imp fun {a b} h => by
    have h3 : a ≤ b := by simpa using h.1
    exact (List.le_iff_lt_or_eq.1 h3).resolve_right h.2
theorem sort_any (w : World) (base : Nat) (v : Value) (xs L : List ByteArray) (ho : w.ownsRow base 9 1 v xs.length (xs.flatMap scells)) (hp : xs.Perm L) (hL : L.Pairwise fun a b => lessS a b = true) (hl : xs.length ≤ 100000) :
    Calls Try.prog 41 #[v] w fun r w' => r = .returned (.tuple #[]) ∧ w'.ownsRow base 9 1 v L.length (L.flatMap scells) ∧ w.grownBy w' v.ownBlock := by
  have hlen : xs.length = L.length := hp.length_eq
  by_cases hv : v = .slice none 0 0
  · subst hv
    have h0 : xs = [] := by
      rcases ho.2 with ⟨_, h0⟩ | ⟨g, cap, cur, e, _⟩
      · exact List.eq_nil_of_length_eq_zero h0
      · cases e
    subst h0
    obtain rfl : L = [] := (List.Perm.nil_eq hp).symm
    refine (Proofs.AnyM.slices_Sort_string_none Try.sortA none 0 w).mono ?_
    rintro r w' ⟨rfl, rfl⟩
    exact ⟨rfl, ho, ⟨rfl, rfl, rfl, Nat.le_refl _, fun _ _ _ => rfl⟩⟩
  · have ho' := ho
    rw [flat_scells] at ho'
    obtain ⟨g, cap, rfl, hg1, hg2, hc1, hc2, hll, hH⟩ := Lib.holds_of_ownsRow ho' hv
    have hcall := Proofs.AnyM.slices_Sort_string Try.sortA g 0 cap (xs.map (·.data.toList)) w hH hg2 (by rw [List.length_map]; omega)
    rw [List.length_map] at hcall
    refine hcall.mono ?_
    rintro r w' ⟨rfl, n, os, rfl⟩
    rw [sort_eq hp hL]
    rcases ho'.2 with ⟨e, _⟩ | ⟨g', cap', cur, e, hb, hgg, hn, hm, hs, ht⟩
    · cases e
    · injection e with e1 _ e3
      injection e1 with e1
      injection e1 with e1
      subst e1; subst e3
      refine ⟨rfl, ?_, grownBy_sorted _⟩
      have h9 := ownsRow_sorted (n := n) (os := os) (ss := xs.map (·.data.toList)) (ts := L.map (·.data.toList)) (by simp [hlen]) hb hgg (by simpa using hn) hm hs
      rw [flat_scells, ← hlen]
      simpa using h9
end Go.Proofs.Ytdgfbpkpfmdjjaa.Hk
