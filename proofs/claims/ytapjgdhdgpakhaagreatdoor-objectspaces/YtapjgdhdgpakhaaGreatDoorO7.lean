/-
  Layer 11, the program's side: what stands ahead of an object's text (head).
-/
import Derived.Test.YtapjgdhdgpakhaaGreatDoorO6
import Derived.Laws.EntriesVeiled
namespace Go.Proofs.YtapjgdhdgpakhaaGreatDoor.Hj
open Go.RowKit Ob Hr
set_option linter.unusedVariables false

theorem treeC_snoc {l : List Ent} {k : Nat} (hk : k < l.length) : treeC (l.take (k + 1)) = treeC (l.take k) ++ entC (l.getD k default) := by
  rw [List.take_add_one, List.getD_eq_getElem?_getD, List.getElem?_eq_getElem hk]
  show List.flatMap entC (l.take k ++ [l[k]]) = _
  rw [List.flatMap_append]
  exact congrArg (treeC (l.take k) ++ ·) (List.append_nil _)
theorem treeC_size {N : Nat} : ∀ {l : List Ent}, (∀ e ∈ l, entOk N e = true) → N ≤ 32 → (treeC l).length ≤ 104 * l.length
  | [], _, _ => by simp [treeC]
  | e :: l, h, hN => by
    have ih := treeC_size (l := l) (fun x hx => h x (by simp [hx])) hN
    obtain ⟨h1, h2, h3⟩ := ent_facts (h e (by simp))
    have h4 := (name_facts h2).2.1
    have h5 := (mode_plain h1).2
    simp only [treeC, List.flatMap_cons, entC, List.length_append, List.length_cons, bl_length] at ih h4 ⊢
    omega
theorem ent_bytes (x : Ent) : bl (str (modeW x.mode) ++ ⟨#[32]⟩ ++ x.name ++ ⟨#[0]⟩ ++ x.id) = entC x := by
  simp only [bl_append, bl_str, entC]
  rw [show bl ⟨#[32]⟩ = [32] from rfl, show bl ⟨#[0]⟩ = [0] from rfl]
  simp

theorem hvWrite_any (w W' : World) (o : Thing) (A : Option Addr) (c : Nat) (P : Option Addr) (d : Nat) (l : List UInt8) (s : ByteArray) (hv : Hv w W' o A c P d l) (hs : l.length + s.size ≤ 100000000) :
    Calls Tryz.prog 47 #[.pointer (some ⟨w.heap.size + 1, 0, none⟩), .string s] W' fun e W2 => (∃ v, e = .returned v) ∧ Hv w W2 o A c P d (l ++ bl s) ∧ Lib.OthersKept 5 (some (w.heap.size + 1)) W' W2 :=
  (write_any w.heap.size (w.heap.size + 1) l s W' hv.bd hv.below.size hs).mono (by
    rintro e W2 ⟨rfl, k1, k2, k3⟩
    exact ⟨⟨_, rfl⟩, hv.turn k1 k2 k3, k3⟩)

set_option maxHeartbeats 8000000 in
set_option maxRecDepth 100000 in
theorem headTree_any (o : Thing) (A : Option Addr) (c : Nat) (P : Option Addr) (d N : Nat) (w : World) (hL : Lies w w.heap.size o A P) (hk : o.kind = 2) (hN : N ≤ 32) (hl : o.ents.length ≤ 512) (he : ∀ e ∈ o.ents, entOk N e = true) :
    Calls Tryz.prog 25 #[.agg (objC o A c P d)] w fun e w' => e = .returned (.string (str (treeC o.ents))) ∧ Below w.heap.size w w' := by
  have hmf : ∀ (fn : Fn) (first cap : Array Value) (w : World), (Instr.makeFunc fn first cap).run Tryz.prog w = .ok (.func fn first cap) w := fun _ _ _ _ => rfl
  have HV := Lib.hid (hv_new w o A c P d)
  have HL := Lib.hid (And.intro hL.ents he)
  have q1 : (o.kind == 2) = true := by rw [hk]; rfl
  have q2 : (o.kind == 3) = false := by rw [hk]; rfl
  have q3 : (o.kind == 4) = false := by rw [hk]; rfl
  clear hL he hk
  go_enter Tryz.func25, Tryz.ntmps25
  go_wp2_with fail
  generalize ((w.alloc (.cells (objC o A c P d) 25 (0, 0))).alloc (.cells #[.pointer none, .slice none 0 0] 67 (0, 0))).alloc (.cells #[.func (.func 46) #[] #[.pointer (some ⟨w.heap.size + 1, 0, none⟩)]] 73 (0, 0)) = W1 at *
  go_loopg [19] o.ents.length (fun gg i wr => ∃ k : Nat, k ≤ o.ents.length ∧ gg = o.ents.length - k ∧ i = .int .i64 k ∧ Hv w wr o A c P d (treeC (o.ents.take k)))
  case atStart => exact ⟨0, Nat.zero_le _, rfl, rfl, HV.out⟩
  case round =>
    obtain ⟨k, hk, rfl, rfl, hv⟩ := hrel
    have HV := Lib.hid hv
    clear hv
    by_cases hlt : k < o.ents.length
    · have h1 : (k : Int) < o.ents.length := by omega
      have h0 : (0 : Int) ≤ k := by omega
      have htk : (o.ents.take k).length ≤ 512 := by rw [List.length_take]; omega
      have hts : (treeC (o.ents.take k)).length ≤ 104 * 512 := by
        have := treeC_size (l := o.ents.take k) (fun e he => HL.out.2 e (List.mem_of_mem_take he)) hN
        omega
      have hxm : o.ents.getD k default ∈ o.ents := by rw [List.getD_eq_getElem?_getD, List.getElem?_eq_getElem hlt]; exact List.getElem_mem hlt
      obtain ⟨hx1, hx2, hx3⟩ := ent_facts (HL.out.2 _ hxm)
      have hx4 := (name_facts hx2).2.1
      rw [bl_length] at hx4
      have hx5 := (mode_plain hx1).2
      have HSN := Lib.hid (treeC_snoc hlt)
      obtain ⟨ad, rfl, hB1, hcs⟩ := (HL.out.1.below HV.out.below) k hlt
      have c0 : wr.cell? (ad.add (k * 3)) = some (.int .i64 (o.ents.getD k default).mode) := by have := hcs 0 (by omega); rwa [show (ad.add (k * 3)).add 0 = ad.add (k * 3) from rfl] at this
      have c1 : wr.cell? ⟨(ad.add (k * 3)).block, (ad.add (k * 3)).off + 1, none⟩ = some (.string (o.ents.getD k default).name) := hcs 1 (by omega)
      have c2 : wr.cell? ⟨(ad.add (k * 3)).block, (ad.add (k * 3)).off + 2, none⟩ = some (.string (o.ents.getD k default).id) := hcs 2 (by omega)
      have HM := Lib.hid (fun W => pmode_any (o.ents.getD k default).mode W)
      have hem : (str (modeW (o.ents.getD k default).mode)).size ≤ 6 := by rw [str_size]; exact hx5
      have HEB := Lib.hid (ent_bytes (o.ents.getD k default))
      have HSZ := Lib.hid (show (treeC (o.ents.take k)).length + (str (modeW (o.ents.getD k default).mode) ++ ⟨#[32]⟩ ++ (o.ents.getD k default).name ++ ⟨#[0]⟩ ++ (o.ents.getD k default).id).size ≤ 100000000 from by
        have q1 : (⟨#[32]⟩ : ByteArray).size = 1 := rfl
        have q2 : (⟨#[0]⟩ : ByteArray).size = 1 := rfl
        simp only [ByteArray.size_append, q1, q2]
        omega)
      have HW := Lib.hid (fun W' hv => hvWrite_any w W' o (some ad) c P d (treeC (o.ents.take k)) _ hv HSZ.out)
      have HSN := Lib.hid (show treeC (o.ents.take (k + 1)) = treeC (o.ents.take k) ++ bl (str (modeW (o.ents.getD k default).mode) ++ ⟨#[32]⟩ ++ (o.ents.getD k default).name ++ ⟨#[0]⟩ ++ (o.ents.getD k default).id) from by rw [HSN.out, HEB.out])
      clear HEB HSZ
      have e1 : (⟨#[32]⟩ : ByteArray).size = 1 := rfl
      have e2 : (⟨#[0]⟩ : ByteArray).size = 1 := rfl
      have hx6 : (o.ents.getD k default).id.size ≤ 32 := by omega
      have HGX := Lib.hid HV.out.fn.lt
      clear hcs hxm hx1 hx2 hx3 hts htk hx5
      generalize o.ents.getD k default = x at *
      generalize str (modeW x.mode) = em at *
      have f1 : ¬ 9223372036854775807 < em.size + (⟨#[32]⟩ : ByteArray).size := by omega
      have f1b : em.size ≤ 9223372036854775806 := by omega
      have f2 : ¬ 9223372036854775807 < (em ++ ⟨#[32]⟩).size + x.name.size := by rw [ByteArray.size_append]; omega
      have f2b : em.size + 1 + x.name.size ≤ 9223372036854775807 := by omega
      have f3 : ¬ 9223372036854775807 < (em ++ ⟨#[32]⟩ ++ x.name).size + (⟨#[0]⟩ : ByteArray).size := by simp only [ByteArray.size_append]; omega
      have f3b : em.size + 1 + x.name.size + 1 ≤ 9223372036854775807 := by omega
      have f3c : em.size + 1 + x.name.size ≤ 9223372036854775806 := by omega
      have f4 : ¬ 9223372036854775807 < (em ++ ⟨#[32]⟩ ++ x.name ++ ⟨#[0]⟩).size + x.id.size := by simp only [ByteArray.size_append]; omega
      have f4b : em.size + 1 + x.name.size + 1 + x.id.size ≤ 9223372036854775807 := by omega
      go_upto_region 9 with fail
      have HX := Lib.hid (box_new wr 44 #[.int .i64 x.mode, .string x.name, .string x.id])
      have HV := Lib.hid (HV.out.step ((Below.refl _ wr).alloc (Nat.le_refl _) (.cells #[.int .i64 x.mode, .string x.name, .string x.id] 44 (0, 0))))
      generalize wr.alloc (.cells #[.int .i64 x.mode, .string x.name, .string x.id] 44 (0, 0)) = W2 at *
      refine wp_region_seq (fun W' => BoxAt W' wr.heap.size 44 #[.int .i64 x.mode, .string x.name, .string x.id] ∧ ∃ l', Hv w W' o (some ad) c P d l') [(0, false, 0), (1, false, 1), (4, false, 3), (5, false, 19), (8, false, 51), (9, false, 307), (2, true, 819), (3, false, 823), (6, false, 831), (7, false, 895), (10, false, 1023), (11, true, 2047)]
        12 (by kernel_rfl) (by kernel_rfl) (by kernel_rfl) (fun d _ _ _ _ h => by cases d <;> exact h) (by kernel_rfl) (by kernel_rfl) (⟨HX.out.step (Below.refl _ W2).drew, _, HV.out.drew⟩) ?_
      have HX := Lib.hid (HX.out.step (Below.refl _ W2).drew)
      have HV := Lib.hid HV.out.drew
      generalize W2.drew = W3 at *
      refine seqH_take (.pointer (some ⟨wr.heap.size, 0, none⟩)) rfl (Or.inl ⟨by rfl, fun W hW => by go_simp⟩) ?_
      go_simp
      refine seqH_take (.int .i64 x.mode) rfl (Or.inl ⟨by rfl, fun W hW => by obtain ⟨d0, d1, d2⟩ := (⟨hW.1.cell 0, hW.1.cell 1, hW.1.cell 2⟩ : _ ∧ _ ∧ _); clear hW; go_simp⟩) ?_
      go_simp
      refine seqH_take (.pointer (some ⟨wr.heap.size, 1, none⟩)) rfl (Or.inl ⟨by rfl, fun W hW => by go_simp⟩) ?_
      go_simp
      refine seqH_take (.string x.name) rfl (Or.inl ⟨by rfl, fun W hW => by obtain ⟨d0, d1, d2⟩ := (⟨hW.1.cell 0, hW.1.cell 1, hW.1.cell 2⟩ : _ ∧ _ ∧ _); clear hW; go_simp⟩) ?_
      go_simp
      refine seqH_take (.pointer (some ⟨wr.heap.size, 2, none⟩)) rfl (Or.inl ⟨by rfl, fun W hW => by go_simp⟩) ?_
      go_simp
      refine seqH_take (.string x.id) rfl (Or.inl ⟨by rfl, fun W hW => by obtain ⟨d0, d1, d2⟩ := (⟨hW.1.cell 0, hW.1.cell 1, hW.1.cell 2⟩ : _ ∧ _ ∧ _); clear hW; go_simp⟩) ?_
      go_simp
      refine seqH_call rfl (by rfl) (fun K hK => ?_)
      have HKK := Lib.hid hK
      clear hK
      go_simp
      refine (HM.out _).mono ?_
      rintro r W4 ⟨rfl, rfl⟩
      refine HKK.out _ _ ⟨HX.out, _, HV.out⟩ ?_
      clear HKK K
      go_simp
      refine seqH_take (.string (em ++ ⟨#[32]⟩)) rfl (Or.inl ⟨by rfl, fun W hW => by go_simp⟩) ?_
      go_simp
      refine seqH_take (.string (em ++ ⟨#[32]⟩ ++ x.name)) rfl (Or.inl ⟨by rfl, fun W hW => by go_simp⟩) ?_
      go_simp
      refine seqH_take (.string (em ++ ⟨#[32]⟩ ++ x.name ++ ⟨#[0]⟩)) rfl (Or.inl ⟨by rfl, fun W hW => by go_simp⟩) ?_
      go_simp
      refine seqH_take (.string (em ++ ⟨#[32]⟩ ++ x.name ++ ⟨#[0]⟩ ++ x.id)) rfl (Or.inl ⟨by rfl, fun W hW => by go_simp⟩) ?_
      go_simp
      refine seqH_call rfl (by rfl) (fun K hK => ?_)
      have HKK := Lib.hid hK
      clear hK
      go_simp
      refine (HW.out _ HV.out).mono ?_
      rintro r W5 ⟨⟨v5, rfl⟩, hv5, hk5⟩
      have HX := Lib.hid (HX.out.kept hk5 (by have := HGX.out; omega) (by decide))
      have HV := Lib.hid hv5
      clear hv5 hk5
      refine HKK.out _ _ ⟨HX.out, _, HV.out⟩ ?_
      clear HKK K
      go_simp
      refine seqH_done ?_
      go_wp2_with fail
      go_roundg (o.ents.length - (k + 1))
      case rel => exact ⟨k + 1, by omega, rfl, by go_num, by rw [HSN.out]; exact HV.out⟩
      case measure => omega
    · have h1 : ¬ (k : Int) < o.ents.length := by omega
      have HT := Lib.hid (fun W' (hv : Hv w W' o A c P d (treeC (o.ents.take k))) => text_any w.heap.size (w.heap.size + 1) (treeC (o.ents.take k)) W' hv.bd hv.below.size)
      rw [show treeC (o.ents.take k) = treeC o.ents from by rw [List.take_of_length_le (by omega)]] at HT HV
      go_wp2_with (go_at_call 53; refine (HT.out _ HV.out).mono ?_; rintro r W5 ⟨rfl, hb5⟩)
      go_ret
      exact ⟨rfl, HV.out.below.trans hb5⟩
end Go.Proofs.YtapjgdhdgpakhaaGreatDoor.Hj
