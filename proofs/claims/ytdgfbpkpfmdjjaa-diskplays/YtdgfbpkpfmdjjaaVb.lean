/-
  The document's with (layer 7).
-/
import Derived.Test.YtdgfbpkpfmdjjaaVa
import Derived.Test.YtdgfbpkpfmdjjaaFork
import Derived.Test.YtdgfbpkpfmdjjaaSt
import Derived.Deep.DeepCutAuto
import Derived.Deep.CutBlock
namespace Go.Proofs.Ytdgfbpkpfmdjjaa.Hk
open Go.RowKit Hr Hw
set_option linter.unusedVariables false

theorem own_slice {w : World} {base : Nat} {e : TypeId} {size n : Nat} {v : Value} {xs : List Value} (h : w.ownsRow base e size v n xs) : ∃ A c, v = .slice A n c := by
  rcases h.2 with ⟨rfl, rfl⟩ | ⟨g, cap, cur, rfl, _⟩
  · exact ⟨_, _, rfl⟩
  · exact ⟨_, _, rfl⟩
theorem one_file (w : World) (q : Fl) : Fls (w.alloc (.cells #[.string q.1, .string q.2] 78)) (w.alloc (.cells #[.string q.1, .string q.2] 78)).heap.size (some ⟨w.heap.size, 0, none⟩) [q] := fun i hi => by
  have hi0 : i = 0 := by simpa using hi
  subst hi0
  refine ⟨_, rfl, by simp, fun j' hj' => ?_⟩
  have hblk := heap_alloc_new w (.cells #[.string q.1, .string q.2] 78)
  rw [add_add, Addr.add_lit]
  simp only [World.cell?, hblk]
  have h2 : j' = 0 ∨ j' = 1 := by omega
  rcases h2 with rfl | rfl <;> rfl
theorem kept_one {w w' : World} {q : Fl} {b : Nat} {row : Option Nat} (h : Fls w w.heap.size (some ⟨b, 0, none⟩) [q]) (hg : w.grownBy w' row) (hne : some b ≠ row) : Fls w' w'.heap.size (some ⟨b, 0, none⟩) [q] := fun i hi => by
  obtain ⟨ad, e, hlt, hc⟩ := h i hi
  injection e with e
  subst e
  refine ⟨_, rfl, Nat.lt_of_lt_of_le hlt hg.size, fun j hj => ?_⟩
  rw [← hc j hj]
  exact World.cell?_of_block (w := w) (by rw [block_of_add, block_of_add]; exact hg.block b hlt hne)
theorem putAt_eq {l : List Fl} {x : ByteArray} : ∀ {k : Nat}, k ≤ l.length → (∀ j, j < k → lessS (l.getD j default).1 x = true) → (k < l.length → lessS (l.getD k default).1 x = false) → putAt l x = k := by
  induction l with
  | nil => intro k hk _ _; simp at hk; simp [putAt, hk]
  | cons q l ih =>
    intro k hk hy hn
    cases k with
    | zero =>
      have h0 := hn (by simp)
      simp at h0
      simp [putAt, h0]
    | succ k =>
      have h0 := hy 0 (by omega)
      simp at h0
      have h1 := ih (k := k) (by simpa using hk) (fun j hj => by have := hy (j + 1) (by omega); simpa using this) (fun hlt => by have := hn (by simpa using hlt); simpa using this)
      simp only [putAt, List.takeWhile_cons, h0, if_true, List.length_cons] at h1 ⊢
      rw [h1]
theorem own_base {w : World} {b b' : Nat} {e : TypeId} {size n : Nat} {v : Value} {xs : List Value} (h : w.ownsRow b e size v n xs) (hb : b' ≤ b) : w.ownsRow b' e size v n xs := by
  refine ⟨h.1, ?_⟩
  rcases h.2 with h2 | ⟨g, cap, cur, h1, h2, h3⟩
  · exact .inl h2
  · exact .inr ⟨g, cap, cur, h1, Nat.le_trans hb h2, h3⟩
theorem slices_of {w : World} {b : Nat} {A : Option Addr} {c k : Nat} {l : List Fl} (ho : w.ownsRow b 78 2 (.slice A l.length c) l.length (l.flatMap fcells)) (hr : Fls w w.heap.size A l) (hk : k ≤ l.length) : ∃ At ct Ad cd, (∀ W : World, (Instr.slice 29 (.slice A l.length c) none (some (.int .i64 (k : Int))) none).run Try.prog W = .ok (.slice At k ct) W) ∧ (∀ W : World, (Instr.slice 29 (.slice A l.length c) (some (.int .i64 (k : Int))) none none).run Try.prog W = .ok (.slice Ad (l.length - k) cd) W) ∧ Fls w w.heap.size At (l.take k) ∧ Fls w w.heap.size Ad (l.drop k) := by
  obtain ⟨i0, E⟩ := fl_elem
  have hu : Try.prog.underlying 29 = some (.slice (Try.prog.elem 29)) := by rw [E.und]; simp [Program.elem, E.und]
  have he : Try.prog.elem 29 = 78 := by simp [Program.elem, E.und]
  have hsz : ∀ W : World, (sizeOf 78).run Try.prog W = .ok 2 W := fun W => by simp [sizeOf, typeInfo, E.info, E.size]
  have hlc : l.length ≤ c := by
    rcases ho.2 with ⟨e, h0⟩ | ⟨g, cap, cur, e, _, _, h2, _⟩
    · omega
    · injection e with _ _ e3; omega
  refine ⟨A, c, (if c = k then A else A.map (·.add (k * 2))), c - k, fun W => ?_, fun W => ?_, hr.take k, ?_⟩
  · rw [run_slice_h W _ _ _ _ hu .i64 (k : Int) (by omega) (by omega), he, hsz]
    simp [Result.andThen, sliced, Addr.add]
  · rw [run_slice_l W _ _ _ _ hu .i64 (k : Int) (by omega) (by omega), he, hsz]
    simp [Result.andThen, sliced]
  · by_cases hck : c = k
    · have h0 : l.drop k = [] := List.drop_eq_nil_of_le (by omega)
      rw [h0]; exact recs_nil _ _ _
    · rw [if_neg hck]
      cases A with
      | none =>
        have h0 : l = [] := by
          cases l with
          | nil => rfl
          | cons y r => obtain ⟨ad, e, _⟩ := hr 0 (by simp); cases e
        subst h0
        simpa using recs_nil _ _ _
      | some ad => exact hr.drop k

def ordW : Tr := .take 1 0 (.take 2 2 (.take 3 6 (.take 5 14 (.take 8 46 (.take 9 302 (.take 10 814 (.fork 0 6 1838 (.fork 4 6 1839 (.call 6 1855 (.call 7 1919 (.call 11 2047 (.take 12 4095 .done)))) (.call 4 1903 (.call 7 1919 (.call 11 2047 (.take 12 4095 .done))))) (.call 0 1902 (.call 4 1903 (.call 7 1919 (.call 11 2047 (.take 12 4095 .done))))))))))))

set_option maxHeartbeats 4000000 in
set_option maxRecDepth 100000 in
theorem with_any (w : World) (B : Nat) (A : Option Addr) (c : Nat) (l : List Fl) (q : Fl) (h : Fls w B A l) (hB : B ≤ w.heap.size) (hl : l.length ≤ 5000) :
    Calls Try.prog 46 #[.slice A l.length c, .agg #[.string q.1, .string q.2]] w fun e w' => (∃ A2 c2, e = .returned (.slice A2 (withF l q).length c2) ∧ w'.ownsRow w.heap.size 78 2 (.slice A2 (withF l q).length c2) (withF l q).length ((withF l q).flatMap fcells)) ∧ Below w.heap.size w w' := by
  obtain ⟨i0, E⟩ := fl_elem
  have HE := Lib.hid E
  clear E
  have hbx : Below w.heap.size w (w.alloc (.cells #[.string q.1, .string q.2] 78)) := (Below.refl _ w).alloc (Nat.le_refl _) _
  have hbk := heap_alloc_new w (.cells #[.string q.1, .string q.2] 78)
  have hsz : (w.alloc (.cells #[.string q.1, .string q.2] 78)).heap.size = w.heap.size + 1 := by simp
  have HC := Lib.hid (without_any (w.alloc (.cells #[.string q.1, .string q.2] 78)) B A c l q.1 (h.below (hbx.mono hB)) (by rw [hsz]; omega) (by omega))
  have HBX := Lib.hid (And.intro hbx (And.intro hbk hsz))
  have hle := withoutF_len l q.1
  rw [show withF l q = (withoutF l q.1).take (putAt (withoutF l q.1) q.1) ++ [q] ++ (withoutF l q.1).drop (putAt (withoutF l q.1) q.1) from rfl]
  generalize withoutF l q.1 = l' at *
  clear h hbx hbk hsz
  go_enter Try.func46, Try.ntmps46
  go_wp2_with fail
  refine HC.out.mono ?_
  rintro e w2 ⟨⟨A2, c2, rfl, hown⟩, hb2⟩
  have hz2 : w.heap.size < w2.heap.size := by have h9 := hb2.size; rw [HBX.out.2.2] at h9; omega
  have hk2 : w2.heap[w.heap.size]? = some (.cells #[.string q.1, .string q.2] 78) := (hb2.block _ (by rw [HBX.out.2.2]; omega)).trans HBX.out.2.1
  have HB2 := Lib.hid (HBX.out.1.trans (hb2.mono HBX.out.1.size))
  obtain ⟨A2', c2', e2, _, hrec⟩ := recs_own fcells_len (by omega) hown
  injection e2 with e2 _ e3
  subst e2 e3
  have HR := Lib.hid hrec
  have HO := Lib.hid hown
  clear hown hrec hb2 HC HBX
  have k0 : w2.cell? ⟨w.heap.size, 0, none⟩ = some (.string q.1) := by simp [World.cell?, hk2]
  have k1 : w2.cell? ⟨w.heap.size, 1, none⟩ = some (.string q.2) := by simp [World.cell?, hk2]
  go_upto_block 0 with fail
  go_cut [5] from 10 to 25 (fun s5 wx => s5 = .int .i64 (putAt l' q.1 : Nat) ∧ Below w2.heap.size w2 wx)
  case first =>
    go_wp2_with fail
    go_loopg [5] l'.length (fun g i wr => ∃ k : Nat, k ≤ l'.length ∧ g = l'.length - k ∧ i = .int .i64 k ∧ Below w2.heap.size w2 wr ∧ ∀ j, j < k → lessS (l'.getD j default).1 q.1 = true)
    case atStart => exact ⟨0, Nat.zero_le _, rfl, rfl, Below.refl _ _, fun j hj => by omega⟩
    case round =>
      obtain ⟨k, hk, rfl, rfl, hbl, hno⟩ := hrel
      have b0 : wr.cell? ⟨w.heap.size, 0, none⟩ = some (.string q.1) := (hbl.cell (p := ⟨w.heap.size, 0, none⟩) hz2).trans k0
      by_cases hlt : k < l'.length
      · have h1 : (k : Int) < l'.length := by omega
        have h0 : (0 : Int) ≤ k := by omega
        obtain ⟨ad, rfl, hB1, hc⟩ := (HR.out.below hbl) k hlt
        have c0 : wr.cell? (ad.add (k * 2)) = some (.string (l'.getD k default).1) := hc 0 (by omega)
        by_cases he : lessS (l'.getD k default).1 q.1 = true
        · have HN := Lib.hid (show ∀ j, j < k + 1 → lessS (l'.getD j default).1 q.1 = true from fun j hj => by
            by_cases e : j = k
            · rw [e]; exact he
            · exact hno j (by omega))
          have hq : Op.bytesLess (l'.getD k default).1.toList q.1.toList = true := he
          have HB := Lib.hid hbl
          generalize (l'.getD k default).1 = x at *
          clear hno hc he hbl
          go_wp2_with fail
          refine wp_region_still_lit (by kernel_rfl) (by kernel_rfl) ?_
          change wpStill _ _ (World.drew _) (fun a' => Exit.then _ _ _ a' (World.drew _)) _ _
          iterate 14 ((with_reducible refine wpStill_step ?_); intro K hK; go_simp; refine hK _ ?_; clear hK K)
          refine wpStill_nil ?_
          go_wp2
          go_roundg (l'.length - (k + 1))
          case rel => exact ⟨k + 1, by omega, rfl, by go_num, HB.out.drew, HN.out⟩
          case measure => omega
        · have hp := putAt_eq hk hno (fun _ => by simpa using he)
          have hq : Op.bytesLess (l'.getD k default).1.toList q.1.toList = false := by simpa [lessS] using he
          have HB := Lib.hid (And.intro hbl hp)
          generalize (l'.getD k default).1 = x at *
          clear hno hc he hbl hp
          go_wp2_with fail
          refine wp_region_still_lit (by kernel_rfl) (by kernel_rfl) ?_
          change wpStill _ _ (World.drew _) (fun a' => Exit.then _ _ _ a' (World.drew _)) _ _
          iterate 14 ((with_reducible refine wpStill_step ?_); intro K hK; go_simp; refine hK _ ?_; clear hK K)
          refine wpStill_nil ?_
          go_wp2
          go_meet
          exact ⟨by rw [HB.out.2], HB.out.1.drew⟩
      · have hp := putAt_eq hk hno (fun h => absurd h hlt)
        have h1 : ¬ (k : Int) < l'.length := by omega
        have HB := Lib.hid (And.intro hbl hp)
        clear hno hbl hp
        go_wp2_with fail
        refine wp_region_still_lit (by kernel_rfl) (by kernel_rfl) ?_
        change wpStill _ _ (World.drew _) (fun a' => Exit.then _ _ _ a' (World.drew _)) _ _
        iterate 5 ((with_reducible refine wpStill_step ?_); intro K hK; go_simp; refine hK _ ?_; clear hK K)
        iterate 8 ((with_reducible refine wpStill_skip ?_ ?_); rfl; go_simp)
        ((with_reducible refine wpStill_step ?_); intro K hK; go_simp; refine hK _ ?_; clear hK K)
        refine wpStill_nil ?_
        go_wp2
        go_meet
        exact ⟨by rw [HB.out.2], HB.out.1.drew⟩
  case rest =>
    obtain ⟨rfl, hbc⟩ := hcut
    have hpl : putAt l' q.1 ≤ l'.length := by unfold putAt; exact List.Sublist.length_le (List.takeWhile_sublist _)
    obtain ⟨k, hke⟩ : ∃ k, putAt l' q.1 = k := ⟨_, rfl⟩
    rw [hke] at hpl
    rw [hke]
    have hsl : ∃ At ct Ad cd, (∀ W : World, (Instr.slice 29 (.slice A2 l'.length c2) none (some (.int .i64 (k : Int))) none).run Try.prog W = .ok (.slice At k ct) W) ∧ (∀ W : World, (Instr.slice 29 (.slice A2 l'.length c2) (some (.int .i64 (k : Int))) none none).run Try.prog W = .ok (.slice Ad (l'.length - k) cd) W) ∧ Fls w2 w2.heap.size At (l'.take k) ∧ Fls w2 w2.heap.size Ad (l'.drop k) := slices_of HO.out HR.out hpl
    obtain ⟨At, ct, Ad, cd, hs1, hs2, ht, hd⟩ := hsl
    have hT : (l'.take k).length = k := by rw [List.length_take]; omega
    have hD : (l'.drop k).length = l'.length - k := by rw [List.length_drop]
    obtain ⟨T, hTe⟩ : ∃ T, l'.take k = T := ⟨_, rfl⟩
    obtain ⟨D, hDe⟩ : ∃ D, l'.drop k = D := ⟨_, rfl⟩
    rw [hTe] at ht hT
    rw [hDe] at hd hD
    have HEQ := Lib.hid (And.intro hke (And.intro hTe hDe))
    clear hke hTe hDe
    have HL := Lib.hid (show ([] : List Fl).length ≤ 100000 ∧ T.length ≤ 100000 ∧ (T ++ [q]).length ≤ 100000 ∧ D.length ≤ 100000 ∧ [q].length ≤ 100000 from ⟨by simp, by omega, by rw [List.length_append, hT]; simp; omega, by omega, by simp⟩)
    have hz := hbc.size
    have hbd : Below w2.heap.size w2 wc.drew := hbc.drew
    go_wp2_with fail
    refine wp_region_tree (fun W => W.cell? ⟨w.heap.size, 0, none⟩ = some (.string q.1) ∧ W.cell? ⟨w.heap.size, 1, none⟩ = some (.string q.2)) ordW 13 (by kernel_rfl) (by kernel_rfl) (by kernel_rfl) (fun d _ _ _ _ h => by cases d <;> exact h) (by kernel_rfl) ⟨(hbd.cell (p := ⟨w.heap.size, 0, none⟩) hz2).trans k0, (hbd.cell (p := ⟨w.heap.size, 1, none⟩) hz2).trans k1⟩ ?_
    have hz0 : w2.heap.size ≤ wc.drew.heap.size := hz
    generalize wc.drew = W0 at *
    have HT := Lib.hid (And.intro (fun (W : World) (hb : Below W0.heap.size W0 W) => ((ht.below hbd).below (hb.mono hz0)).mono (Nat.le_trans hz0 hb.size)) hT)
    have HD := Lib.hid (And.intro (fun (W : World) (hb : Below W0.heap.size W0 W) => ((hd.below hbd).below (hb.mono hz0)).mono (Nat.le_trans hz0 hb.size)) hD)
    have HS := Lib.hid (fun (W : World) (hb : Below W0.heap.size W0 W) => And.intro (((hbd.trans (hb.mono hz0)).cell (p := ⟨w.heap.size, 0, none⟩) hz2).trans k0) (((hbd.trans (hb.mono hz0)).cell (p := ⟨w.heap.size, 1, none⟩) hz2).trans k1))
    have HB0 := Lib.hid (HB2.out.trans (hbd.mono (Nat.le_of_lt hz2)))
    have hr0 : Below W0.heap.size W0 W0 := Below.refl _ _
    clear ht hd hbc hbd k0 k1 hk2 HR HO HB2 hz
    unfold ordW
    refine trH_take (.slice A2 l'.length c2) rfl (Or.inl ⟨by rfl, fun W hW => by go_simp⟩) ?_
    go_simp
    refine trH_take (.int .i64 k) rfl (Or.inl ⟨by rfl, fun W hW => by go_simp⟩) ?_
    go_simp
    refine trH_take (.slice At k ct) rfl (Or.inl ⟨by rfl, fun W hW => by go_simp⟩) ?_
    go_simp
    refine trH_take (.agg #[.string q.1, .string q.2]) rfl (Or.inl ⟨by rfl, fun W hW => by have hx := hW.1; have hy := hW.2; clear hW; go_simp⟩) ?_
    go_simp
    refine trH_take (.slice A2 l'.length c2) rfl (Or.inl ⟨by rfl, fun W hW => by go_simp⟩) ?_
    go_simp
    refine trH_take (.int .i64 k) rfl (Or.inl ⟨by rfl, fun W hW => by go_simp⟩) ?_
    go_simp
    refine trH_take (.slice Ad (l'.length - k) cd) rfl (Or.inl ⟨by rfl, fun W hW => by go_simp⟩) ?_
    go_simp
    refine trH_fork rfl (by rfl) rfl (by rfl) (fun K hK => ?_) (fun K hK => ?_)
    · skip
      have HK := Lib.hid hK
      clear hK
      go_simp
      have hb2 : Below W0.heap.size W0 (W0.alloc (.cells #[] 78)) := hr0.alloc hr0.size _
      have ho3 : (W0.alloc (.cells #[] 78)).ownsRow W0.heap.size 78 2 (.slice (some ⟨W0.heap.size, 0, none⟩) 0 0) ([] : List Fl).length (([] : List Fl).flatMap fcells) := ⟨rfl, .inr ⟨W0.heap.size, 0, #[], rfl, hr0.size, heap_alloc_new W0 _, Nat.le_refl _, Nat.zero_le _, rfl, rfl⟩⟩
      refine HK.out _ _ (HS.out _ hb2) ?_
      clear HK K
      generalize W0.alloc (.cells #[] 78) = y1 at *
      go_simp
      refine trH_fork rfl (by rfl) rfl (by rfl) (fun K hK => ?_) (fun K hK => ?_)
      · skip
        have HK := Lib.hid hK
        clear hK
        obtain ⟨v6, y5, HR10, ho7, hg8, _⟩ := app_recs HE.out fcells_len fcells_one y1 W0.heap.size (.slice (some ⟨W0.heap.size, 0, none⟩) 0 0) [] T At ct _ 29 ho3 (HT.out.1 _ hb2) HL.out.1 HL.out.2.1 hb2.size
        have hb9 : Below W0.heap.size W0 y5 := hb2.grown hg8 hb2.size (fun i hi => (ho3.lt i hi).1)
        obtain ⟨A11, c12, rfl⟩ := own_slice ho7
        have HHR10 := Lib.hid HR10
        simp only [List.nil_append, HT.out.2] at HHR10
        clear HR10
        unfold Oper.wp
        simp [execOp, resolve, invoke, builtin, Act.eval, HHR10.out, Result.andThen, Oper.upon]
        refine HK.out _ _ (HS.out _ hb9) ?_
        clear HK K
        go_simp
        have ho13 : y5.ownsRow W0.heap.size 78 2 (.slice A11 T.length c12) T.length (T.flatMap fcells) := ho7
        refine trH_call rfl (by rfl) (fun K hK => ?_)
        have HK := Lib.hid hK
        clear hK
        go_simp
        have hb15 : Below W0.heap.size W0 (y5.alloc (.cells #[.string q.1, .string q.2] 78)) := hb9.alloc hb9.size _
        have hq16 := one_file y5 q
        have ho18 := ho13.alloc (.cells #[.string q.1, .string q.2] 78)
        have hne : some y5.heap.size ≠ (.slice A11 T.length c12 : Value).ownBlock := fun e => by have := (ho13.lt _ e.symm).2; omega
        refine HK.out _ _ (HS.out _ hb15) ?_
        clear HK K
        generalize y5.alloc (.cells #[.string q.1, .string q.2] 78) = y14 at *
        go_simp
        refine trH_call rfl (by rfl) (fun K hK => ?_)
        have HK := Lib.hid hK
        clear hK
        obtain ⟨v20, y19, HR24, ho21, hg22, _⟩ := app_recs HE.out fcells_len fcells_one y14 W0.heap.size (.slice A11 T.length c12) T [q] (some ⟨y5.heap.size, 0, none⟩) 1 _ 29 ho18 hq16 HL.out.2.1 HL.out.2.2.2.2 hb15.size
        have hb23 : Below W0.heap.size W0 y19 := hb15.grown hg22 hb15.size (fun i hi => (ho18.lt i hi).1)
        obtain ⟨A25, c26, rfl⟩ := own_slice ho21
        have HHR24 := Lib.hid HR24
        simp only [List.length_append, List.length_cons, List.length_nil, Nat.zero_add, HT.out.2] at HHR24
        clear HR24
        unfold Oper.wp
        simp [execOp, resolve, invoke, builtin, Act.eval, HHR24.out, Result.andThen, Oper.upon]
        refine HK.out _ _ (HS.out _ hb23) ?_
        clear HK K
        go_simp
        refine trH_call rfl (by rfl) (fun K hK => ?_)
        have HK := Lib.hid hK
        clear hK
        obtain ⟨v28, y27, HR32, ho29, hg30, _⟩ := app_recs HE.out fcells_len fcells_one y19 W0.heap.size (.slice A25 (T ++ [q]).length c26) (T ++ [q]) D Ad cd _ 29 ho21 (HD.out.1 _ hb23) HL.out.2.2.1 HL.out.2.2.2.1 hb23.size
        have hb31 : Below W0.heap.size W0 y27 := hb23.grown hg30 hb23.size (fun i hi => (ho21.lt i hi).1)
        obtain ⟨A33, c34, rfl⟩ := own_slice ho29
        have HHR32 := Lib.hid HR32
        simp only [List.length_append, List.length_cons, List.length_nil, Nat.zero_add, HT.out.2, HD.out.2] at HHR32
        clear HR32
        unfold Oper.wp
        simp [execOp, resolve, invoke, builtin, Act.eval, HHR32.out, Result.andThen, Oper.upon]
        refine HK.out _ _ (HS.out _ hb31) ?_
        clear HK K
        go_simp
        refine trH_take (.slice A33 (k + 1 + (l'.length - k)) c34) rfl (Or.inl ⟨by rfl, fun W hW => by go_simp⟩) ?_
        go_simp
        refine trH_done ?_
        have hlen : (T ++ [q] ++ D).length = k + 1 + (l'.length - k) := by simp only [List.length_append, List.length_cons, List.length_nil, HT.out.2, HD.out.2]
        have HF := Lib.hid (And.intro (And.intro ho29 hlen) (HB0.out.trans (hb31.mono (Nat.le_trans (Nat.le_of_lt hz2) hz0))))
        clear ho29 hb31 hlen
        go_wp2
        go_ret
        refine ⟨⟨A33, c34, ?_, ?_⟩, HF.out.2⟩
        · rw [HEQ.out.1, HEQ.out.2.1, HEQ.out.2.2, HF.out.1.2]; rfl
        · rw [HEQ.out.1, HEQ.out.2.1, HEQ.out.2.2]; exact Hk.own_base HF.out.1.1 (Nat.le_trans (Nat.le_of_lt hz2) hz0)
      · skip
        have HK := Lib.hid hK
        clear hK
        go_simp
        have hb36 : Below W0.heap.size W0 (y1.alloc (.cells #[.string q.1, .string q.2] 78)) := hb2.alloc hb2.size _
        have hq37 := one_file y1 q
        have ho39 := ho3.alloc (.cells #[.string q.1, .string q.2] 78)
        have hne : some y1.heap.size ≠ (.slice (some ⟨W0.heap.size, 0, none⟩) 0 0 : Value).ownBlock := fun e => by have := (ho3.lt _ e.symm).2; omega
        refine HK.out _ _ (HS.out _ hb36) ?_
        clear HK K
        generalize y1.alloc (.cells #[.string q.1, .string q.2] 78) = y35 at *
        go_simp
        refine trH_call rfl (by rfl) (fun K hK => ?_)
        have HK := Lib.hid hK
        clear hK
        obtain ⟨v41, y40, HR45, ho42, hg43, _⟩ := app_recs HE.out fcells_len fcells_one y35 W0.heap.size (.slice (some ⟨W0.heap.size, 0, none⟩) 0 0) [] T At ct _ 29 ho39 (HT.out.1 _ hb36) HL.out.1 HL.out.2.1 hb36.size
        have hb44 : Below W0.heap.size W0 y40 := hb36.grown hg43 hb36.size (fun i hi => (ho39.lt i hi).1)
        obtain ⟨A46, c47, rfl⟩ := own_slice ho42
        have hq48 : Fls y40 y40.heap.size (some ⟨y1.heap.size, 0, none⟩) [q] := kept_one hq37 hg43 hne
        have HHR45 := Lib.hid HR45
        simp only [List.nil_append, HT.out.2] at HHR45
        clear HR45
        unfold Oper.wp
        simp [execOp, resolve, invoke, builtin, Act.eval, HHR45.out, Result.andThen, Oper.upon]
        refine HK.out _ _ (HS.out _ hb44) ?_
        clear HK K
        go_simp
        have ho49 : y40.ownsRow W0.heap.size 78 2 (.slice A46 T.length c47) T.length (T.flatMap fcells) := ho42
        refine trH_call rfl (by rfl) (fun K hK => ?_)
        have HK := Lib.hid hK
        clear hK
        obtain ⟨v51, y50, HR55, ho52, hg53, _⟩ := app_recs HE.out fcells_len fcells_one y40 W0.heap.size (.slice A46 T.length c47) T [q] (some ⟨y1.heap.size, 0, none⟩) 1 _ 29 ho49 hq48 HL.out.2.1 HL.out.2.2.2.2 hb44.size
        have hb54 : Below W0.heap.size W0 y50 := hb44.grown hg53 hb44.size (fun i hi => (ho49.lt i hi).1)
        obtain ⟨A56, c57, rfl⟩ := own_slice ho52
        have HHR55 := Lib.hid HR55
        simp only [List.length_append, List.length_cons, List.length_nil, Nat.zero_add, HT.out.2] at HHR55
        clear HR55
        unfold Oper.wp
        simp [execOp, resolve, invoke, builtin, Act.eval, HHR55.out, Result.andThen, Oper.upon]
        refine HK.out _ _ (HS.out _ hb54) ?_
        clear HK K
        go_simp
        refine trH_call rfl (by rfl) (fun K hK => ?_)
        have HK := Lib.hid hK
        clear hK
        obtain ⟨v59, y58, HR63, ho60, hg61, _⟩ := app_recs HE.out fcells_len fcells_one y50 W0.heap.size (.slice A56 (T ++ [q]).length c57) (T ++ [q]) D Ad cd _ 29 ho52 (HD.out.1 _ hb54) HL.out.2.2.1 HL.out.2.2.2.1 hb54.size
        have hb62 : Below W0.heap.size W0 y58 := hb54.grown hg61 hb54.size (fun i hi => (ho52.lt i hi).1)
        obtain ⟨A64, c65, rfl⟩ := own_slice ho60
        have HHR63 := Lib.hid HR63
        simp only [List.length_append, List.length_cons, List.length_nil, Nat.zero_add, HT.out.2, HD.out.2] at HHR63
        clear HR63
        unfold Oper.wp
        simp [execOp, resolve, invoke, builtin, Act.eval, HHR63.out, Result.andThen, Oper.upon]
        refine HK.out _ _ (HS.out _ hb62) ?_
        clear HK K
        go_simp
        refine trH_take (.slice A64 (k + 1 + (l'.length - k)) c65) rfl (Or.inl ⟨by rfl, fun W hW => by go_simp⟩) ?_
        go_simp
        refine trH_done ?_
        have hlen : (T ++ [q] ++ D).length = k + 1 + (l'.length - k) := by simp only [List.length_append, List.length_cons, List.length_nil, HT.out.2, HD.out.2]
        have HF := Lib.hid (And.intro (And.intro ho60 hlen) (HB0.out.trans (hb62.mono (Nat.le_trans (Nat.le_of_lt hz2) hz0))))
        clear ho60 hb62 hlen
        go_wp2
        go_ret
        refine ⟨⟨A64, c65, ?_, ?_⟩, HF.out.2⟩
        · rw [HEQ.out.1, HEQ.out.2.1, HEQ.out.2.2, HF.out.1.2]; rfl
        · rw [HEQ.out.1, HEQ.out.2.1, HEQ.out.2.2]; exact Hk.own_base HF.out.1.1 (Nat.le_trans (Nat.le_of_lt hz2) hz0)
    · skip
      have HK := Lib.hid hK
      clear hK
      go_simp
      have hb67 : Below W0.heap.size W0 (W0.alloc (.cells #[.string q.1, .string q.2] 78)) := hr0.alloc hr0.size _
      have hq68 := one_file W0 q
      refine HK.out _ _ (HS.out _ hb67) ?_
      clear HK K
      generalize W0.alloc (.cells #[.string q.1, .string q.2] 78) = y66 at *
      go_simp
      refine trH_call rfl (by rfl) (fun K hK => ?_)
      have HK := Lib.hid hK
      clear hK
      go_simp
      have hb71 : Below W0.heap.size W0 (y66.alloc (.cells #[] 78)) := hb67.alloc hb67.size _
      have ho72 : (y66.alloc (.cells #[] 78)).ownsRow W0.heap.size 78 2 (.slice (some ⟨y66.heap.size, 0, none⟩) 0 0) ([] : List Fl).length (([] : List Fl).flatMap fcells) := ⟨rfl, .inr ⟨y66.heap.size, 0, #[], rfl, hb67.size, heap_alloc_new y66 _, Nat.le_refl _, Nat.zero_le _, rfl, rfl⟩⟩
      have hq74 : Fls (y66.alloc (.cells #[] 78)) (y66.alloc (.cells #[] 78)).heap.size (some ⟨W0.heap.size, 0, none⟩) [q] := (hq68.below ((Below.refl _ y66).alloc (Nat.le_refl _) (.cells #[] 78))).mono (by simp)
      have hne : some W0.heap.size ≠ (Value.slice (some ⟨y66.heap.size, 0, none⟩) 0 0).ownBlock := fun e => by obtain ⟨ad, e2, hlt, _⟩ := hq68 0 (by simp); injection e2 with e2; subst e2; injection e with e; exact absurd e (Nat.ne_of_lt hlt)
      refine HK.out _ _ (HS.out _ hb71) ?_
      clear HK K
      generalize y66.alloc (.cells #[] 78) = y70 at *
      go_simp
      refine trH_call rfl (by rfl) (fun K hK => ?_)
      have HK := Lib.hid hK
      clear hK
      obtain ⟨v76, y75, HR80, ho77, hg78, _⟩ := app_recs HE.out fcells_len fcells_one y70 W0.heap.size (.slice (some ⟨y66.heap.size, 0, none⟩) 0 0) [] T At ct _ 29 ho72 (HT.out.1 _ hb71) HL.out.1 HL.out.2.1 hb71.size
      have hb79 : Below W0.heap.size W0 y75 := hb71.grown hg78 hb71.size (fun i hi => (ho72.lt i hi).1)
      obtain ⟨A81, c82, rfl⟩ := own_slice ho77
      have hq83 : Fls y75 y75.heap.size (some ⟨W0.heap.size, 0, none⟩) [q] := kept_one hq74 hg78 hne
      have HHR80 := Lib.hid HR80
      simp only [List.nil_append, HT.out.2] at HHR80
      clear HR80
      unfold Oper.wp
      simp [execOp, resolve, invoke, builtin, Act.eval, HHR80.out, Result.andThen, Oper.upon]
      refine HK.out _ _ (HS.out _ hb79) ?_
      clear HK K
      go_simp
      have ho84 : y75.ownsRow W0.heap.size 78 2 (.slice A81 T.length c82) T.length (T.flatMap fcells) := ho77
      refine trH_call rfl (by rfl) (fun K hK => ?_)
      have HK := Lib.hid hK
      clear hK
      obtain ⟨v86, y85, HR90, ho87, hg88, _⟩ := app_recs HE.out fcells_len fcells_one y75 W0.heap.size (.slice A81 T.length c82) T [q] (some ⟨W0.heap.size, 0, none⟩) 1 _ 29 ho84 hq83 HL.out.2.1 HL.out.2.2.2.2 hb79.size
      have hb89 : Below W0.heap.size W0 y85 := hb79.grown hg88 hb79.size (fun i hi => (ho84.lt i hi).1)
      obtain ⟨A91, c92, rfl⟩ := own_slice ho87
      have HHR90 := Lib.hid HR90
      simp only [List.length_append, List.length_cons, List.length_nil, Nat.zero_add, HT.out.2] at HHR90
      clear HR90
      unfold Oper.wp
      simp [execOp, resolve, invoke, builtin, Act.eval, HHR90.out, Result.andThen, Oper.upon]
      refine HK.out _ _ (HS.out _ hb89) ?_
      clear HK K
      go_simp
      refine trH_call rfl (by rfl) (fun K hK => ?_)
      have HK := Lib.hid hK
      clear hK
      obtain ⟨v94, y93, HR98, ho95, hg96, _⟩ := app_recs HE.out fcells_len fcells_one y85 W0.heap.size (.slice A91 (T ++ [q]).length c92) (T ++ [q]) D Ad cd _ 29 ho87 (HD.out.1 _ hb89) HL.out.2.2.1 HL.out.2.2.2.1 hb89.size
      have hb97 : Below W0.heap.size W0 y93 := hb89.grown hg96 hb89.size (fun i hi => (ho87.lt i hi).1)
      obtain ⟨A99, c100, rfl⟩ := own_slice ho95
      have HHR98 := Lib.hid HR98
      simp only [List.length_append, List.length_cons, List.length_nil, Nat.zero_add, HT.out.2, HD.out.2] at HHR98
      clear HR98
      unfold Oper.wp
      simp [execOp, resolve, invoke, builtin, Act.eval, HHR98.out, Result.andThen, Oper.upon]
      refine HK.out _ _ (HS.out _ hb97) ?_
      clear HK K
      go_simp
      refine trH_take (.slice A99 (k + 1 + (l'.length - k)) c100) rfl (Or.inl ⟨by rfl, fun W hW => by go_simp⟩) ?_
      go_simp
      refine trH_done ?_
      have hlen : (T ++ [q] ++ D).length = k + 1 + (l'.length - k) := by simp only [List.length_append, List.length_cons, List.length_nil, HT.out.2, HD.out.2]
      have HF := Lib.hid (And.intro (And.intro ho95 hlen) (HB0.out.trans (hb97.mono (Nat.le_trans (Nat.le_of_lt hz2) hz0))))
      clear ho95 hb97 hlen
      go_wp2
      go_ret
      refine ⟨⟨A99, c100, ?_, ?_⟩, HF.out.2⟩
      · rw [HEQ.out.1, HEQ.out.2.1, HEQ.out.2.2, HF.out.1.2]; rfl
      · rw [HEQ.out.1, HEQ.out.2.1, HEQ.out.2.2]; exact Hk.own_base HF.out.1.1 (Nat.le_trans (Nat.le_of_lt hz2) hz0)
end Go.Proofs.Ytdgfbpkpfmdjjaa.Hk
