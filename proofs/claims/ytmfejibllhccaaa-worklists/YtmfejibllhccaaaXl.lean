/-
  The program's All (layer 6): the keys, rising.
-/
import Derived.Test.YtmfejibllhccaaaLaz
import Derived.Test.YtmfejibllhccaaaXb
import Derived.Test.YtmfejibllhccaaaHeld
namespace Go.Proofs.Ytmfejibllhccaaa.Hx
open Go.RowKit Go.Maps Go.Shelf Hw
set_option linter.unusedVariables false

theorem sortsA (m : Nat) : AnyZI.SortsIn Try.prog Try.sortedA_ren Fence.wide m :=
  ⟨fun blk off cap ss W hH hblk hsz => callsIn_wide.2 (AnyM.slices_Sort_int Try.sortA blk off cap ss W hH hblk hsz),
   fun p cap W => callsIn_wide.2 (AnyM.slices_Sort_int_none Try.sortA p cap W)⟩
theorem keys_call (mb : Option Nat) (W : World) : Calls Try.prog 36 #[.map mb] W fun e w' => e = .returned (.func (.func 42) #[] #[.pointer (some ⟨W.heap.size, 0, none⟩)]) ∧ w' = W.alloc (.cells #[.map mb] 36) :=
  callsIn_wide.1 (AnyZI.keys_in Try.keysA Fence.wide 5 trivial rfl mb W)
/-- what slices.Sorted hands back: the keys, each once, rising -/
def SortedOut (w : World) (v : Value) (ks : List Int) (w' : World) : Prop := ∃ L : List Int, w'.ownsRow w.heap.size 3 1 v L.length (intCells L) ∧ L.length = ks.length ∧ (∀ x, x ∈ L → x ∈ ks) ∧ L.Pairwise (· < ·) ∧ Below w.heap.size w w'
theorem rising {ss : List Int} (hn : ss.Nodup) : (ss.mergeSort fun x y => decide (x ≤ y)).Pairwise (· < ·) := by
  have h1 : (ss.mergeSort fun x y => decide (x ≤ y)).Pairwise (fun a b => decide (a ≤ b) = true) := List.pairwise_mergeSort (fun a b c h1 h2 => by simp only [decide_eq_true_eq] at *; omega) (fun a b => by simp only [Bool.or_eq_true, decide_eq_true_eq]; omega) ss
  have h2 : (ss.mergeSort fun x y => decide (x ≤ y)).Pairwise (· ≠ ·) := (List.mergeSort_perm ss _).nodup_iff.2 hn
  exact (List.pairwise_and_iff.2 ⟨h1, h2⟩).imp fun {a b} h => by
    have h3 : a ≤ b := by simpa using h.1
    have h4 : a ≠ b := h.2
    omega
theorem keys_nodup {w : World} {m n : Nat} {D : DataW Unit} (ho : w.ownsMap (H := Unit) Try.prog 3 unitElem m n D) : (intKeys D).Nodup ∧ (∀ x, x ∈ intKeys D → has D (ky x) = true) ∧ (intKeys D).length = Maps.size D := by
  obtain ⟨es, hD, hpw, _⟩ := ho.entries klaw
  obtain ⟨es', hD', hko⟩ := ho.keysOf
  obtain rfl : es = es' := by rw [hD] at hD'; simpa using hD'
  subst hD
  have hk : ∀ q ∈ es, ∃ x, q.1 = .int .i64 x := fun q hq => by obtain ⟨v, hv⟩ := hko q hq; obtain ⟨x, _, hx, _⟩ := Maps.keyOf_i64 Try.underlying3 hv; exact ⟨x, hx⟩
  refine ⟨?_, fun x hx => ?_, ?_⟩
  · show (es.map fun p => Go.intOf p.1).Nodup
    refine List.pairwise_map.2 (hpw.imp_of_mem fun {p q} hp' hq' hne e => hne ?_)
    obtain ⟨a, ha⟩ := hk p hp'
    obtain ⟨b, hb⟩ := hk q hq'
    rw [ha, hb] at e ⊢
    exact congrArg _ e
  · obtain ⟨q, hq, rfl⟩ := List.mem_map.1 hx
    obtain ⟨a, ha⟩ := hk q hq
    rw [has_eq, List.any_eq_true]
    exact ⟨q, hq, by rw [ha]; simp [Lit.sameKey, Go.intOf, ky]⟩
  · simp [intKeys, Maps.size]
theorem sorted_call (W : World) (k m n : Nat) (D : DataW Unit) (ks : List Int) (hk : k < W.heap.size) (hc : W.cell? ⟨k, 0, none⟩ = some (.map (some m))) (ho : W.ownsMap (H := Unit) Try.prog 3 unitElem m n D) (hh : ∀ x, has D (ky x) = decide (x ∈ ks)) (hs : Maps.size D = ks.length) (hl : ks.length ≤ 100000) :
    Calls Try.prog 35 #[.func (.func 42) #[] #[.pointer (some ⟨k, 0, none⟩)]] W fun e w' => ∃ v, e = .returned v ∧ SortedOut W v ks w' := by
  have hseq : SeqGives Fence.wide 2 Try.prog 42 #[.pointer (some ⟨k, 0, none⟩)] encZ (fun ss => ss.Perm (intKeys D)) (Maps.size D) W :=
    AnyZI.keys_gives (ρ := Try.keysA_ren) { Try.keysA with } Fence.wide _ trivial rfl (by omega) k m n D W hk hc ho
  have cS := AnyZI.sorted_in Try.sortedA Fence.wide 5 trivial trivial trivial trivial rfl (by omega) (sortsA _) (enters_of Try.func41 (by kernel_rfl) rfl) 42 #[.pointer (some ⟨k, 0, none⟩)] trivial (enters_of Try.func42 (by kernel_rfl) rfl) _ _ (by rw [hs]; unfold maxLen; omega) (by rw [hs]; omega) _ hseq
  change CallsIn _ _ Try.prog 35 _ _ _ at cS
  refine (callsIn_wide.1 cS).mono ?_
  rintro e w' ⟨v, ss, rfl, hS, hrow, _, hb⟩
  obtain ⟨hnd, hin, hlen⟩ := keys_nodup ho
  refine ⟨v, rfl, ss.mergeSort (fun x y => decide (x ≤ y)), ?_, ?_, fun x hx => ?_, rising (hS.nodup_iff.2 hnd), hb⟩
  · rw [List.length_mergeSort]; exact hrow
  · rw [List.length_mergeSort, hS.length_eq, hlen, hs]
  · have h1 : x ∈ ss := (List.mergeSort_perm ss _).mem_iff.1 hx
    have h2 := hin x (hS.mem_iff.1 h1)
    rw [hh x] at h2
    simpa using h2
theorem sorted_none (W : World) (k : Nat) (hk : k < W.heap.size) (hc : W.cell? ⟨k, 0, none⟩ = some (.map none)) :
    Calls Try.prog 35 #[.func (.func 42) #[] #[.pointer (some ⟨k, 0, none⟩)]] W fun e w' => ∃ v, e = .returned v ∧ SortedOut W v [] w' := by
  have hseq : SeqGives Fence.wide 2 Try.prog 42 #[.pointer (some ⟨k, 0, none⟩)] encZ (fun ss : List Int => ss = []) 0 W :=
    AnyZI.keys_gives_nil (ρ := Try.keysA_ren) { Try.keysA with } Fence.wide _ trivial rfl k W hk hc
  have cS := AnyZI.sorted_in Try.sortedA Fence.wide 5 trivial trivial trivial trivial rfl (by omega) (sortsA _) (enters_of Try.func41 (by kernel_rfl) rfl) 42 #[.pointer (some ⟨k, 0, none⟩)] trivial (enters_of Try.func42 (by kernel_rfl) rfl) _ 0 (Nat.zero_le _) (by omega) _ hseq
  change CallsIn _ _ Try.prog 35 _ _ _ at cS
  refine (callsIn_wide.1 cS).mono ?_
  rintro e w' ⟨v, ss, rfl, rfl, hrow, _, hb⟩
  have hrow' : w'.ownsRow W.heap.size 3 1 v ([] : List Int).length _ := hrow
  exact ⟨v, rfl, [], by simpa [intCells] using hrow', rfl, fun x hx => (by cases hx), List.Pairwise.nil, hb⟩

set_option maxRecDepth 100000 in
theorem clone_nil (w : World) : Calls Try.prog 34 #[.slice none 0 0] w fun e w' => e = .returned (.slice none 0 0) ∧ w' = w := by
  have heq : ∀ W : World, (binOp .eql 26 (.slice none 0 0) (.slice none 0 0)).run Try.prog W = .ok (.bool true) W := fun W => by kernel_rfl
  go_enter Try.func34, Try.ntmps34
  go_wp2
  go_ret
  exact ⟨rfl, rfl⟩
/-- append(nil, v...) -/
theorem app_all (w : World) (base : Nat) (v : Value) (L : List Int) (ho : w.ownsRow base 3 1 v L.length (intCells L)) (hl : L.length ≤ 100000) (ty : TypeId) :
    ∃ A c w', (Builtin.append_ #[26, 26] ty #[.slice none 0 0, v]).run Try.prog w = .ok (.slice A L.length c) w' ∧ Ints w' w'.heap.size A L ∧ Below w.heap.size w w' := by
  obtain ⟨i0, hi0, hz0, hz1, hz2⟩ := info_parts info3
  rcases ho.2 with ⟨rfl, h0⟩ | ⟨g, cap, cur, rfl, hb, hg, hle, hm, hsz, htk⟩
  · have hL : L = [] := List.eq_nil_of_length_eq_zero h0
    subst hL
    refine ⟨none, 0, w, ?_, (fun i hi => by cases hi), Below.refl _ w⟩
    simp [Builtin.append_, run_underlying Try.underlying26, Builtin.lenOf, Builtin.firstCells, sizeOf, typeInfo, hi0]
  · obtain ⟨v', w', hrun, hown, hgr, _, _⟩ := run_append_own_at (P := Try.prog) w w.heap.size 26 ty 3 i0 _ 1 8 Try.underlying26 hi0 hz0 hz1 hz2 rfl (by omega) (.slice none 0 0) 0 [] (World.ownsRow_nil _ _ _ _) ⟨g, 0, none⟩ L.length cap (intCells L) (by simp [intCells]) (fun j u hu => ho.cells (g := g) rfl j u hu) (by simp [intCells, Value.oneCell']) (by unfold maxLen; omega) (by omega) (by simp)
    rw [Nat.zero_add, List.nil_append] at hown
    obtain ⟨A, c, rfl, hin⟩ := ints_own hown
    exact ⟨A, c, w', hrun, hin, (Below.refl _ w).grown hgr (Nat.le_refl _) (fun k hk => by cases hk)⟩

set_option maxHeartbeats 2000000 in
set_option maxRecDepth 100000 in
theorem all_any (w : World) (b : Nat) (F : List Nat) (ks : List Int) (h : SeenAt w b ks F) (hl : ks.length ≤ 100000) :
    Calls Try.prog 21 #[.pointer (some ⟨b, 0, none⟩)] w fun e w' => (∃ A c L, e = .returned (.slice A L.length c) ∧ Ints w' w'.heap.size A L ∧ L.length = ks.length ∧ (∀ x, x ∈ L → x ∈ ks) ∧ L.Pairwise (· < ·)) ∧ Below w.heap.size w w' := by
  have hmb : ∃ mb, w.cell? ⟨b, 0, none⟩ = some (.map mb) ∧ w.cell? ⟨b, 1, none⟩ = some (.slice none 0 0) ∧ b < w.heap.size ∧ ∀ W k, Below w.heap.size w W → w.heap.size ≤ k → k < W.heap.size → W.cell? ⟨k, 0, none⟩ = some (.map mb) →
      Calls Try.prog 35 #[.func (.func 42) #[] #[.pointer (some ⟨k, 0, none⟩)]] W fun e w' => ∃ v, e = .returned v ∧ SortedOut W v ks w' := by
    obtain ⟨t, ⟨hb, rfl, rfl⟩ | ⟨m, n, D, hb, ho, h1, h2, h3, h4, rfl⟩⟩ := h
    · exact ⟨none, by rw [cell_of_cells hb]; rfl, by rw [cell_of_cells hb]; rfl, (Array.getElem?_eq_some_iff.1 hb).1, fun W k _ _ hk hc => sorted_none W k hk hc⟩
    · refine ⟨some m, by rw [cell_of_cells hb]; rfl, by rw [cell_of_cells hb]; rfl, (Array.getElem?_eq_some_iff.1 hb).1, fun W k hB _ hk hc => sorted_call W k m n D ks hk hc ?_ h2 h3 hl⟩
      have hml := ho.lt
      obtain ⟨es, clock, hm, r⟩ := ho
      exact ⟨es, clock, (hB.block m hml).trans hm, r⟩
  obtain ⟨mb, c0, c1, hbl, hsc⟩ := hmb
  have HS := Lib.hid hsc
  clear h hsc
  go_enter Try.func21, Try.ntmps21
  go_wp2_with fail
  refine wp_region_seq (fun W => W.cell? ⟨b, 0, none⟩ = some (.map mb) ∧ W.cell? ⟨b, 1, none⟩ = some (.slice none 0 0)) [(0, false, 0), (1, false, 1), (2, false, 3), (3, false, 7), (5, false, 15), (6, false, 47), (7, false, 111), (8, false, 239), (4, true, 495), (9, true, 511), (10, true, 1023), (11, true, 2047), (12, false, 4095)]
    13 (by kernel_rfl) (by kernel_rfl) (by kernel_rfl) (fun d _ _ _ _ h => by cases d <;> exact h) (by kernel_rfl) (by kernel_rfl) ⟨by rw [World.cell?_drew]; exact c0, by rw [World.cell?_drew]; exact c1⟩ ?_
  have hbd : Below w.heap.size w w.drew := (Below.refl _ w).drew
  have d0 : w.drew.cell? ⟨b, 0, none⟩ = some (.map mb) := by rw [World.cell?_drew]; exact c0
  have d1 : w.drew.cell? ⟨b, 1, none⟩ = some (.slice none 0 0) := by rw [World.cell?_drew]; exact c1
  generalize w.drew = w2 at *
  have HB2 := Lib.hid hbd
  have hz2 := hbd.size
  clear c0 c1 hbd
  refine seqH_take (.pointer (some ⟨b, 0, none⟩)) rfl (Or.inl ⟨by rfl, fun W hW => by go_simp⟩) ?_
  go_simp
  refine seqH_take (.pointer (some ⟨b, 0, none⟩)) rfl (Or.inl ⟨by rfl, fun W hW => by go_simp⟩) ?_
  go_simp
  refine seqH_take (.pointer (some ⟨b, 1, none⟩)) rfl (Or.inl ⟨by rfl, fun W hW => by go_simp⟩) ?_
  go_simp
  refine seqH_take (.slice none 0 0) rfl (Or.inl ⟨by rfl, fun W hW => by have hcell := hW.2; clear hW; go_simp⟩) ?_
  go_simp
  refine seqH_take (.pointer (some ⟨b, 0, none⟩)) rfl (Or.inl ⟨by rfl, fun W hW => by go_simp⟩) ?_
  go_simp
  refine seqH_take (.pointer (some ⟨b, 0, none⟩)) rfl (Or.inl ⟨by rfl, fun W hW => by go_simp⟩) ?_
  go_simp
  refine seqH_take (.pointer (some ⟨b, 0, none⟩)) rfl (Or.inl ⟨by rfl, fun W hW => by go_simp⟩) ?_
  go_simp
  refine seqH_take (.map mb) rfl (Or.inl ⟨by rfl, fun W hW => by have hcell := hW.1; clear hW; go_simp⟩) ?_
  go_simp
  refine seqH_call rfl (by rfl) (fun K hK => ?_)
  have HK := Lib.hid hK
  clear hK
  go_simp
  refine (clone_nil w2).mono ?_
  rintro e w3 ⟨rfl, rfl⟩
  refine HK.out _ _ ⟨d0, d1⟩ ?_
  clear HK K
  go_simp
  refine seqH_call rfl (by rfl) (fun K hK => ?_)
  have HK := Lib.hid hK
  clear hK
  go_simp
  refine (keys_call mb w3).mono ?_
  rintro e w4 ⟨rfl, hw4⟩
  have hb4 : Below w3.heap.size w3 w4 := by rw [hw4]; exact (Below.refl _ w3).alloc (Nat.le_refl _) _
  have hz4 : w3.heap.size < w4.heap.size := by rw [hw4]; simp
  have hc4 : w4.cell? ⟨w3.heap.size, 0, none⟩ = some (.map mb) := by rw [hw4, cell_of_cells (heap_alloc_new w3 _)]; rfl
  have e0 : w4.cell? ⟨b, 0, none⟩ = some (.map mb) := (hb4.cell (p := ⟨b, 0, none⟩) (by show b < _; omega)).trans d0
  have e1 : w4.cell? ⟨b, 1, none⟩ = some (.slice none 0 0) := (hb4.cell (p := ⟨b, 1, none⟩) (by show b < _; omega)).trans d1
  refine HK.out _ _ ⟨e0, e1⟩ ?_
  clear HK K hw4
  go_simp
  refine seqH_call rfl (by rfl) (fun K hK => ?_)
  have HK := Lib.hid hK
  clear hK
  go_simp
  refine (HS.out w4 w3.heap.size (HB2.out.trans (hb4.mono hz2)) hz2 hz4 hc4).mono ?_
  rintro e w5 ⟨v, rfl, L, hown, hlen, hsub, hris, hb5⟩
  have f0 : w5.cell? ⟨b, 0, none⟩ = some (.map mb) := (hb5.cell (p := ⟨b, 0, none⟩) (by show b < _; omega)).trans e0
  have f1 : w5.cell? ⟨b, 1, none⟩ = some (.slice none 0 0) := (hb5.cell (p := ⟨b, 1, none⟩) (by show b < _; omega)).trans e1
  refine HK.out _ _ ⟨f0, f1⟩ ?_
  clear HK K
  go_simp
  refine seqH_call rfl (by rfl) (fun K hK => ?_)
  have HK := Lib.hid hK
  clear hK
  obtain ⟨A, c, w6, hrun, hin, hb6⟩ := app_all w5 _ v L hown (by omega) 26
  have HRUN := Lib.hid hrun
  clear hrun
  unfold Oper.wp
  simp [execOp, resolve, invoke, builtin, Act.eval, HRUN.out, Result.andThen, Oper.upon]
  refine HK.out _ _ ⟨(hb6.cell (p := ⟨b, 0, none⟩) (by show b < _; have := hb5.size; omega)).trans f0, (hb6.cell (p := ⟨b, 1, none⟩) (by show b < _; have := hb5.size; omega)).trans f1⟩ ?_
  clear HK K
  go_simp
  refine seqH_take (.slice A L.length c) rfl (Or.inl ⟨by rfl, fun W hW => by go_simp⟩) ?_
  go_simp
  refine seqH_done ?_
  have HH := Lib.hid (And.intro hin (And.intro hlen (And.intro hsub (And.intro hris (HB2.out.trans (((hb4.trans (hb5.mono (by omega))).trans (hb6.mono (by have := hb5.size; omega))).mono hz2))))))
  clear hin hsub hris hb4 hb5 hb6 hown
  go_wp2
  go_ret
  exact ⟨⟨A, c, L, by rw [HH.out.2.1]; rfl, HH.out.1, HH.out.2.1, HH.out.2.2.1, HH.out.2.2.2.1⟩, HH.out.2.2.2.2⟩
end Go.Proofs.Ytmfejibllhccaaa.Hx
