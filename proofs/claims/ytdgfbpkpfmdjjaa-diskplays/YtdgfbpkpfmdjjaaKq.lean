/-
  few, awake (layer 7).
-/
import Derived.Test.YtdgfbpkpfmdjjaaKp
namespace Go.Proofs.Ytdgfbpkpfmdjjaa.Hk
open Go.RowKit Hr Hw Ht
set_option linter.unusedVariables false

def costF (a : Ac) : Nat := 1 + min (a.2.1.size + a.2.2.1.size) 100000 / 50
def sumF (l : List Ac) : Nat := (l.map costF).sum
theorem sumF_succ {l : List Ac} {j : Nat} (hj : j < l.length) : sumF (l.take (j + 1)) = sumF (l.take j) + costF (l.getD j default) := by
  rw [List.take_add_one, List.getElem?_eq_getElem hj]
  simp only [sumF, Option.toList_some, List.map_append, List.sum_append, List.map_cons, List.map_nil, List.sum_cons, List.sum_nil, List.getD, List.getElem?_eq_getElem hj, Option.getD_some, Nat.add_zero]
theorem sumF_take (l : List Ac) (j : Nat) : sumF (l.take j) ≤ sumF l := by
  have h : sumF l = sumF (l.take j) + sumF (l.drop j) := by
    unfold sumF
    rw [← List.sum_append, ← List.map_append, List.take_append_drop]
  omega

set_option maxHeartbeats 2000000 in
set_option maxRecDepth 100000 in
theorem few_any (w : World) (A : Option Addr) (c : Nat) (l : List Ac) (B : Nat) (h : Acs w B A l) (hB : B ≤ w.heap.size) (hz : ∀ a ∈ l, AcOk a) :
    Calls Try.prog 9 #[.slice A l.length c] w fun r w' => r = .returned (.bool (decide (sumF l ≤ 300))) ∧ Below w.heap.size w w' := by
  have HP := Lib.hid h
  have HZ := Lib.hid hz
  clear h hz
  go_enter Try.func9, Try.ntmps9
  go_wp2
  go_loopg [3, 4] l.length (fun g n i wr => ∃ j : Nat, j ≤ l.length ∧ g = l.length - j ∧ n = .int .i64 (sumF (l.take j)) ∧ i = .int .i64 j ∧ sumF (l.take j) ≤ 300 ∧ j ≤ 300 ∧ Below w.heap.size w wr)
  case atStart => exact ⟨0, Nat.zero_le _, rfl, rfl, rfl, by simp [sumF], by omega, Below.refl _ _⟩
  case round =>
    obtain ⟨j, hj, rfl, rfl, rfl, hs, hj3, hbw⟩ := hrel
    by_cases hlt : j < l.length
    · have h1 : (j : Int) < l.length := by omega
      have h0 : (0 : Int) ≤ j := by omega
      obtain ⟨ad, rfl, hB1, hcc⟩ := (HP.out.below (hbw.mono hB)) j hlt
      have hmem : l.getD j default ∈ l := by rw [List.getD_eq_getElem?_getD, List.getElem?_eq_getElem hlt]; simp
      have hok := HZ.out _ hmem
      have e1 : wr.cell? ⟨(ad.add (j * 5)).block, (ad.add (j * 5)).off + 1, none⟩ = some (.string (l.getD j default).2.1) := hcc 1 (by omega)
      have e2 : wr.cell? ⟨(ad.add (j * 5)).block, (ad.add (j * 5)).off + 2, none⟩ = some (.string (l.getD j default).2.2.1) := hcc 2 (by omega)
      have hsu := sumF_succ hlt
      have hp1 := hok.path
      have hp2 := hok.text
      have hsm : ∀ m, sumF (l.take m) ≤ sumF l := sumF_take l
      have HSM := Lib.hid hsm
      have hco : costF (l.getD j default) = 1 + min ((l.getD j default).2.1.size + (l.getD j default).2.2.1.size) 100000 / 50 := rfl
      obtain ⟨cst, hcst⟩ : ∃ cst, costF (l.getD j default) = cst := ⟨_, rfl⟩
      rw [hcst] at hsu hco
      generalize (l.getD j default).2.1 = p at *
      generalize (l.getD j default).2.2.1 = t at *
      have hr9 := reachBytes_lt
      have hw1 : IntKind.i64.wrap ((sumF (l.take j) : Int) + 1) = (sumF (l.take j) : Int) + 1 := by rw [IntKind.wrap_i64]; omega
      have hw2 : IntKind.i64.wrap ((p.size : Int) + t.size) = (p.size : Int) + t.size := by rw [IntKind.wrap_i64]; omega
      have HS := Lib.hid (And.intro hsu hco)
      have HB := Lib.hid hbw
      clear hcc hok hmem hsm hcst hsu hco hbw
      go_wp2_with fail
      refine wp_region_seq (fun W => W.cell? ⟨(ad.add (j * 5)).block, (ad.add (j * 5)).off + 1, none⟩ = some (.string p) ∧ W.cell? ⟨(ad.add (j * 5)).block, (ad.add (j * 5)).off + 2, none⟩ = some (.string t)) [(0, false, 0), (1, false, 1), (2, false, 3), (3, false, 7), (4, false, 15), (5, false, 31), (6, false, 63), (7, false, 127), (8, false, 255), (9, false, 511), (10, false, 1023), (11, false, 2047), (12, false, 4095), (13, false, 8191), (14, false, 16383), (15, true, 32767), (16, false, 65535), (17, false, 131071), (18, false, 262143)]
        19 (by kernel_rfl) (by kernel_rfl) (by kernel_rfl) (fun d _ _ _ _ h => by cases d <;> exact h) (by kernel_rfl) (by kernel_rfl) ⟨by rw [World.cell?_drew]; exact e1, by rw [World.cell?_drew]; exact e2⟩ ?_
      have hS : (wr.drew.cell? ⟨(ad.add (j * 5)).block, (ad.add (j * 5)).off + 1, none⟩ = some (.string p) ∧ wr.drew.cell? ⟨(ad.add (j * 5)).block, (ad.add (j * 5)).off + 2, none⟩ = some (.string t)) := ⟨by rw [World.cell?_drew]; exact e1, by rw [World.cell?_drew]; exact e2⟩
      have HBD := Lib.hid HB.out.drew
      have HSS := Lib.hid hS
      clear hS e1 e2
      generalize wr.drew = wd at *
      refine seqH_take (.int .i64 (sumF (l.take j))) rfl (Or.inl ⟨by rfl, fun W _ => by go_simp⟩) ?_
      go_simp
      refine seqH_take (.int .i64 ((sumF (l.take j) : Int) + 1)) rfl (Or.inl ⟨by rfl, fun W _ => by go_simp⟩) ?_
      go_simp
      refine seqH_take (.slice (some ad) l.length c) rfl (Or.inl ⟨by rfl, fun W _ => by go_simp⟩) ?_
      go_simp
      refine seqH_take (.int .i64 j) rfl (Or.inl ⟨by rfl, fun W _ => by go_simp⟩) ?_
      go_simp
      refine seqH_take (.pointer (some (ad.add (j * 5)))) rfl (Or.inl ⟨by rfl, fun W _ => by go_simp⟩) ?_
      go_simp
      refine seqH_take (.pointer (some ⟨(ad.add (j * 5)).block, (ad.add (j * 5)).off + 1, none⟩)) rfl (Or.inl ⟨by rfl, fun W _ => by go_simp⟩) ?_
      go_simp
      refine seqH_take (.string p) rfl (Or.inl ⟨by rfl, fun W hW => by have q1 := hW.1; clear hW; go_simp⟩) ?_
      go_simp
      refine seqH_take (.int .i64 p.size) rfl (Or.inl ⟨by rfl, fun W _ => by go_simp⟩) ?_
      go_simp
      refine seqH_take (.slice (some ad) l.length c) rfl (Or.inl ⟨by rfl, fun W _ => by go_simp⟩) ?_
      go_simp
      refine seqH_take (.int .i64 j) rfl (Or.inl ⟨by rfl, fun W _ => by go_simp⟩) ?_
      go_simp
      refine seqH_take (.pointer (some (ad.add (j * 5)))) rfl (Or.inl ⟨by rfl, fun W _ => by go_simp⟩) ?_
      go_simp
      refine seqH_take (.pointer (some ⟨(ad.add (j * 5)).block, (ad.add (j * 5)).off + 2, none⟩)) rfl (Or.inl ⟨by rfl, fun W _ => by go_simp⟩) ?_
      go_simp
      refine seqH_take (.string t) rfl (Or.inl ⟨by rfl, fun W hW => by have q2 := hW.2; clear hW; go_simp⟩) ?_
      go_simp
      refine seqH_take (.int .i64 t.size) rfl (Or.inl ⟨by rfl, fun W _ => by go_simp⟩) ?_
      go_simp
      refine seqH_take (.int .i64 ((p.size : Int) + t.size)) rfl (Or.inl ⟨by rfl, fun W _ => by go_simp⟩) ?_
      go_simp
      refine seqH_call rfl (by rfl) (fun K hK => ?_)
      have HK := Lib.hid hK
      clear hK
      go_simp
      refine HK.out _ _ HSS.out ?_
      clear HK K
      go_simp
      have hmn : min ((p.size : Int) + t.size) 100000 = ((min (p.size + t.size) 100000 : Nat) : Int) := by omega
      have hcs := HS.out.2
      have hq : IntKind.i64.wrap (((min (p.size + t.size) 100000 : Nat) : Int) / 50) = (cst : Int) - 1 := by rw [IntKind.wrap_i64]; omega
      have hw3 : IntKind.i64.wrap ((sumF (l.take j) : Int) + 1 + ((cst : Int) - 1)) = (sumF (l.take (j + 1)) : Int) := by rw [IntKind.wrap_i64]; have := HS.out.1; omega
      clear hcs
      refine seqH_take (.int .i64 ((cst : Int) - 1)) rfl (Or.inl ⟨by rfl, fun W _ => by go_simp⟩) ?_
      go_simp
      refine seqH_take (.int .i64 (sumF (l.take (j + 1)))) rfl (Or.inl ⟨by rfl, fun W _ => by go_simp⟩) ?_
      go_simp
      refine seqH_take (.int .i64 (sumF (l.take (j + 1)))) rfl (Or.inl ⟨by rfl, fun W _ => by go_simp⟩) ?_
      go_simp
      refine seqH_done ?_
      have hc0 : 1 ≤ cst := by have := HS.out.2; omega
      have hss := HS.out.1
      by_cases h3 : (300 : Int) < (sumF (l.take (j + 1)) : Int)
      · have h3d : decide ((300 : Int) < (sumF (l.take (j + 1)) : Int)) = true := decide_eq_true h3
        have HR := Lib.hid (show decide (sumF l ≤ 300) = false from decide_eq_false (by have := HSM.out (j + 1); omega))
        clear hss hw1 hw2 hw3 hmn hq
        generalize (sumF (l.take (j + 1)) : Int) = S1 at *
        go_wp2
        go_ret
        exact ⟨by rw [HR.out]; rfl, HBD.out⟩
      · have h3d : decide ((300 : Int) < (sumF (l.take (j + 1)) : Int)) = false := decide_eq_false h3
        have hj9 : j + 1 ≤ 300 := by
          have : j + 1 ≤ sumF (l.take (j + 1)) := by
            have h9 : ∀ (k : Nat), k ≤ l.length → k ≤ sumF (l.take k) := fun k => by
              induction k with
              | zero => intro _; exact Nat.zero_le _
              | succ k ih =>
                intro hk
                have h8 := sumF_succ (l := l) (j := k) (by omega)
                have h7 : 1 ≤ costF (l.getD k default) := by unfold costF; omega
                have := ih (by omega)
                omega
            exact h9 (j + 1) (by omega)
          omega
        have HX := Lib.hid hss
        clear hss hw1 hw2 hw3 hmn hq
        go_wp2
        go_roundg (l.length - (j + 1))
        case rel => exact ⟨j + 1, by omega, rfl, rfl, by go_num, by omega, hj9, HBD.out⟩
        case measure => omega
    · have h1 : ¬ (j : Int) < l.length := by omega
      obtain rfl : j = l.length := by omega
      rw [List.take_length] at hs
      have HR := Lib.hid (show decide (sumF l ≤ 300) = true from decide_eq_true hs)
      have HB := Lib.hid hbw
      clear hs hbw
      go_wp2
      go_ret
      exact ⟨by rw [HR.out]; rfl, HB.out⟩
end Go.Proofs.Ytdgfbpkpfmdjjaa.Hk
