/-
  Layer 11: a tree with an entry more, or less (ObjectEntries), by what the program's object is to answer.
-/
import Derived.Test.YtapjgdhdgpakhaaGreatDoorOq
import Derived.Test.YtapjgdhdgpakhaaGreatDoorSt
import Derived.Test.YtapjgdhdgpakhaaGreatDoorHeld
namespace Go.Proofs.YtapjgdhdgpakhaaGreatDoor.Hj
open Go.RowKit Ob Hr
set_option linter.unusedVariables false

theorem entV_len : ∀ a : Ent, (entV a).length = 3 := fun _ => rfl
theorem entV_one : ∀ (a : Ent) (u : Value), u ∈ entV a → u.oneCell' = true := by
  intro a u hu
  simp [entV] at hu
  rcases hu with rfl | rfl | rfl <;> rfl
theorem ent_elem : ∃ i0, ElemOf 22 44 3 i0 (.agg #[.int .i64 0, .string ByteArray.empty, .string ByteArray.empty]) 40 := mkElem Tryz.underlying22 (by kernel_rfl) rfl (by decide) (by decide)
theorem own_ents {w : World} {B n : Nat} {v : Value} {l : List Ent} (h : w.ownsRow B 44 3 v n (l.flatMap entV)) : ∃ A c, v = .slice A l.length c := by
  obtain ⟨A, c, e, _⟩ := recs_own entV_len (by omega) h
  exact ⟨A, c, e⟩
theorem one_ent (w : World) (x : Ent) : Recs 3 entV (w.alloc (.cells #[.int .i64 x.mode, .string x.name, .string x.id] 44)) (w.heap.size + 1) (some ⟨w.heap.size, 0, none⟩) [x] := fun i hi => by
  have hi0 : i = 0 := by simpa using hi
  subst hi0
  refine ⟨_, rfl, by simp, fun j' hj' => ?_⟩
  have hblk := heap_alloc_new w (.cells #[.int .i64 x.mode, .string x.name, .string x.id] 44)
  rw [add_add, Addr.add_lit]
  simp only [World.cell?, hblk]
  have h2 : j' = 0 ∨ j' = 1 ∨ j' = 2 := by omega
  rcases h2 with rfl | rfl | rfl <;> rfl
theorem BoxAt.trio {w : World} {g t : Nat} {x : Ent} (h : BoxAt w g t #[.int .i64 x.mode, .string x.name, .string x.id]) :
    w.cell? ⟨g, 0, none⟩ = some (.int .i64 x.mode) ∧ w.cell? ⟨g, 1, none⟩ = some (.string x.name) ∧ w.cell? ⟨g, 2, none⟩ = some (.string x.id) := ⟨h.cell 0, h.cell 1, h.cell 2⟩

/-- the loop's state -/
def Mid (x : Ent) (t : List Ent) (dn : Bool) (l : List Ent) : Prop :=
  (∀ y ∈ t, bl y.name ≠ bl x.name) ∧ (dn = false → l = t ∧ ∀ y ∈ t, ¬ bl x.name < bl y.name) ∧ (dn = true → l = putIn x t ∧ ∃ y ∈ t, bl x.name < bl y.name)
theorem mid_start (x : Ent) : Mid x [] false [] := ⟨(fun y hy => by cases hy), (fun _ => ⟨rfl, (fun y hy => by cases hy)⟩), (fun h => by cases h)⟩
section
variable {x e : Ent} {t l : List Ent}
theorem Mid.names {dn : Bool} (h : Mid x t dn l) (he : ¬ bl e.name = bl x.name) : ∀ y ∈ t ++ [e], bl y.name ≠ bl x.name := fun y hy => by
  rcases List.mem_append.1 hy with h1 | h1
  · exact h.1 y h1
  · simp only [List.mem_singleton] at h1; subst h1; exact he
theorem Mid.put (h : Mid x t false l) (he : ¬ bl e.name = bl x.name) (hlt : bl x.name < bl e.name) : Mid x (t ++ [e]) true (l ++ [x] ++ [e]) := by
  obtain ⟨rfl, h2⟩ := h.2.1 rfl
  refine ⟨h.names he, (fun hd => by cases hd), fun _ => ⟨?_, e, by simp, hlt⟩⟩
  rw [putIn_step x e l h2, if_pos hlt]; simp
theorem Mid.pass (h : Mid x t false l) (he : ¬ bl e.name = bl x.name) (hlt : ¬ bl x.name < bl e.name) : Mid x (t ++ [e]) false (l ++ [e]) := by
  obtain ⟨rfl, h2⟩ := h.2.1 rfl
  refine ⟨h.names he, fun _ => ⟨rfl, fun y hy => ?_⟩, fun hd => by cases hd⟩
  rcases List.mem_append.1 hy with h1 | h1
  · exact h2 y h1
  · simp only [List.mem_singleton] at h1; subst h1; exact hlt
theorem Mid.more (h : Mid x t true l) (he : ¬ bl e.name = bl x.name) : Mid x (t ++ [e]) true (l ++ [e]) := by
  obtain ⟨rfl, y, hy, h3⟩ := h.2.2 rfl
  exact ⟨h.names he, (fun hd => by cases hd), fun _ => ⟨(putIn_more x e t ⟨y, hy, h3⟩).symm, y, by simp [hy], h3⟩⟩
theorem Mid.last (h : Mid x t false l) : l ++ [x] = putIn x t := by
  obtain ⟨rfl, h2⟩ := h.2.1 rfl
  exact (putIn_end x l h2).symm
end
theorem ent_slices {w : World} {A : Option Addr} {c k : Nat} {l : List Ent} (hr : Ents w w.heap.size A l) (hk : k < l.length) (hlc : l.length ≤ c) : ∃ At ct Ad cd, (∀ W : World, (Instr.slice 22 (.slice A l.length c) none (some (.int .i64 (k : Int))) none).run Tryz.prog W = .ok (.slice At k ct) W) ∧ (∀ W : World, (Instr.slice 22 (.slice A l.length c) (some (.int .i64 ((k : Int) + 1))) none none).run Tryz.prog W = .ok (.slice Ad (l.length - (k + 1)) cd) W) ∧ Ents w w.heap.size At (l.take k) ∧ Ents w w.heap.size Ad (l.drop (k + 1)) := by
  obtain ⟨i0, E⟩ := ent_elem
  have hu : Tryz.prog.underlying 22 = some (.slice (Tryz.prog.elem 22)) := by rw [E.und]; simp [Program.elem, E.und]
  have he : Tryz.prog.elem 22 = 44 := by simp [Program.elem, E.und]
  have hsz : ∀ W : World, (sizeOf 44).run Tryz.prog W = .ok 3 W := fun W => by simp [sizeOf, typeInfo, E.info, E.size]
  obtain ⟨m, hm⟩ : ∃ m : Nat, k + 1 = m := ⟨_, rfl⟩
  have hmi : ((k : Int) + 1) = (m : Int) := by omega
  rw [hmi, hm]
  refine ⟨A, c, (if c = m then A else A.map (·.add (m * 3))), c - m, fun W => ?_, fun W => ?_, hr.take k, ?_⟩
  · rw [run_slice_h W _ _ _ _ hu .i64 (k : Int) (by omega) (by omega), he, hsz]
    simp [Result.andThen, sliced, Addr.add]
  · rw [run_slice_l W _ _ _ _ hu .i64 (m : Int) (by omega) (by omega), he, hsz]
    simp [Result.andThen, sliced]
  · by_cases hck : c = m
    · have h0 : l.drop m = [] := List.drop_eq_nil_of_le (by omega)
      rw [h0]; exact recs_nil _ _ _
    · rw [if_neg hck]
      cases A with
      | none =>
        have h0 : l = [] := by
          cases l with
          | nil => rfl
          | cons y r => obtain ⟨ad, e, _⟩ := hr 0 (by simp); cases e
        subst h0
        simpa using recs_nil _ _ _
      | some ad => exact hr.drop m
theorem own_set {w : World} {B n : Nat} {v : Value} {xs : List Value} (h : w.ownsRow B 44 3 v n xs) {p : Addr} (hp : p.block < B) (u : Value) : (w.setCell p u).ownsRow B 44 3 v n xs :=
  ⟨h.1, h.2.imp (fun h0 => h0) fun ⟨g, cap, cur, hv, hb, hg, hr⟩ => ⟨g, cap, cur, hv, hb, (Below.heap_setCell _ _ _ _ (by omega)).trans hg, hr⟩⟩
theorem small_put {o : Thing} {x : Ent} (h : Small o) (hx : x.name.size ≤ 200 ∧ x.id.size ≤ 200) (hn : o.ents.length ≤ 400) : Small (withEnts o (putIn x o.ents)) :=
  ⟨h.text, by show (putIn x o.ents).length ≤ 1000; rw [putIn_length]; omega, h.tree, h.pars, h.target, h.name, h.who, fun e he => by
    rcases (putIn_perm x o.ents e).1 he with rfl | he
    · omega
    · exact h.ent e he, h.par⟩
theorem ent_take_snoc {l : List Ent} {k : Nat} (h : k < l.length) : l.take (k + 1) = l.take k ++ [l.getD k default] := by
  rw [List.take_add_one, List.getElem?_eq_getElem h]
  simp [List.getD, List.getElem?_eq_getElem h]

set_option maxHeartbeats 16000000 in
set_option maxRecDepth 100000 in
theorem entriesLaw_any {K : World → Prop} (F : Faces K) (o : Thing) (A : Option Addr) (c : Nat) (P : Option Addr) (d : Nat) (sp : Int) (x : Ent) (wh : Int) (w : World) (hK : K w) (hl : Lies w w.heap.size o A P) (hr : Reach o) (hcap : o.ents.length ≤ c) (hd : o.parents.length ≤ d) :
    Calls Tryz.prog 7 #[.agg (objC o A c P d), .int .i64 sp, .agg #[.int .i64 x.mode, .string x.name, .string x.id], .int .i64 wh] w fun e w' => e = .returned (.bool true) ∧ Below w.heap.size w w' := by
  have HK := Lib.hid hK
  have HF := Lib.hid F
  have HD := Lib.hid hd
  clear hd
  have HA := Lib.hid (fun W h => awake11_any F W h)
  have HW := Lib.hid (fun W (h : Lies W W.heap.size o A P) => few_any W W.heap.size o A c P d h (Nat.le_refl _) hr)
  have HP := Lib.hid (two_new w 25 44 (objC o A c P d) #[.int .i64 x.mode, .string x.name, .string x.id])
  have HL := Lib.hid (hl.step (two_new w 25 44 (objC o A c P d) #[.int .i64 x.mode, .string x.name, .string x.id]).below)
  have HB0 := Lib.hid hl
  clear hK F hl hr
  cases hf : few o with
  | false =>
    rw [hf] at HW
    clear hf
    go_enter Tryz.func7, Tryz.ntmps7
    go_wp2_with (first | (go_at_call 8; refine (HA.out _ (HF.out.under _ _ HK.out HP.out.below)).mono ?_; rintro r w5 ⟨rfl, hb5⟩; have HP := Lib.hid (HP.out.step hb5); have HL := Lib.hid (HL.out.step hb5); obtain ⟨c0, c1, c2, c3, c4, c5, c6, c7, c8, c9⟩ := HP.out.a.ten; obtain ⟨d0, d1, d2⟩ := HP.out.b.trio; clear hb5) | (go_at_call 9; refine (HW.out _ HL.out).mono ?_; rintro r w5 ⟨rfl, hb5⟩; have HP := Lib.hid (HP.out.step hb5); have HL := Lib.hid (HL.out.step hb5); obtain ⟨c0, c1, c2, c3, c4, c5, c6, c7, c8, c9⟩ := HP.out.a.ten; obtain ⟨d0, d1, d2⟩ := HP.out.b.trio; clear hb5))
    go_ret
    exact ⟨rfl, HP.out.below⟩
  | true =>
    have hs := few_small hf
    have htot : total o < 30000 := of_decide_eq_true hf
    rw [hf] at HW
    clear hf
    have HR := Lib.hid (fun W h (hl : Lies W W.heap.size o A P) => HF.out.right o A c P d sp W h hl hs HD.out)
    by_cases hx1 : 200 < x.name.size
    · have i1 : decide ((200 : Int) < x.name.size) = true := decide_eq_true (by omega)
      clear hs HR hx1 htot
      go_enter Tryz.func7, Tryz.ntmps7
      go_wp2_with (first | (go_at_call 8; refine (HA.out _ (HF.out.under _ _ HK.out HP.out.below)).mono ?_; rintro r w5 ⟨rfl, hb5⟩; have HP := Lib.hid (HP.out.step hb5); have HL := Lib.hid (HL.out.step hb5); obtain ⟨c0, c1, c2, c3, c4, c5, c6, c7, c8, c9⟩ := HP.out.a.ten; obtain ⟨d0, d1, d2⟩ := HP.out.b.trio; clear hb5) | (go_at_call 9; refine (HW.out _ HL.out).mono ?_; rintro r w5 ⟨rfl, hb5⟩; have HP := Lib.hid (HP.out.step hb5); have HL := Lib.hid (HL.out.step hb5); obtain ⟨c0, c1, c2, c3, c4, c5, c6, c7, c8, c9⟩ := HP.out.a.ten; obtain ⟨d0, d1, d2⟩ := HP.out.b.trio; clear hb5))
      go_ret
      exact ⟨rfl, HP.out.below⟩
    · have i1 : decide ((200 : Int) < x.name.size) = false := decide_eq_false (by omega)
      by_cases hx2 : 200 < x.id.size
      · have i2 : decide ((200 : Int) < x.id.size) = true := decide_eq_true (by omega)
        clear hs HR hx1 hx2 htot
        go_enter Tryz.func7, Tryz.ntmps7
        go_wp2_with (first | (go_at_call 8; refine (HA.out _ (HF.out.under _ _ HK.out HP.out.below)).mono ?_; rintro r w5 ⟨rfl, hb5⟩; have HP := Lib.hid (HP.out.step hb5); have HL := Lib.hid (HL.out.step hb5); obtain ⟨c0, c1, c2, c3, c4, c5, c6, c7, c8, c9⟩ := HP.out.a.ten; obtain ⟨d0, d1, d2⟩ := HP.out.b.trio; clear hb5) | (go_at_call 9; refine (HW.out _ HL.out).mono ?_; rintro r w5 ⟨rfl, hb5⟩; have HP := Lib.hid (HP.out.step hb5); have HL := Lib.hid (HL.out.step hb5); obtain ⟨c0, c1, c2, c3, c4, c5, c6, c7, c8, c9⟩ := HP.out.a.ten; obtain ⟨d0, d1, d2⟩ := HP.out.b.trio; clear hb5))
        go_ret
        exact ⟨rfl, HP.out.below⟩
      · have i2 : decide ((200 : Int) < x.id.size) = false := decide_eq_false (by omega)
        by_cases hk2 : o.kind = 2
        · have q2 : (o.kind != 2) = false := by simp [hk2]
          cases hrt : Ob.right o sp with
          | false =>
            rw [hrt] at HR
            clear hs hx1 hx2 htot hrt hk2
            go_enter Tryz.func7, Tryz.ntmps7
            go_wp2_with (first | (go_at_call 8; refine (HA.out _ (HF.out.under _ _ HK.out HP.out.below)).mono ?_; rintro r w5 ⟨rfl, hb5⟩; have HP := Lib.hid (HP.out.step hb5); have HL := Lib.hid (HL.out.step hb5); obtain ⟨c0, c1, c2, c3, c4, c5, c6, c7, c8, c9⟩ := HP.out.a.ten; obtain ⟨d0, d1, d2⟩ := HP.out.b.trio; clear hb5) | (go_at_call 9; refine (HW.out _ HL.out).mono ?_; rintro r w5 ⟨rfl, hb5⟩; have HP := Lib.hid (HP.out.step hb5); have HL := Lib.hid (HL.out.step hb5); obtain ⟨c0, c1, c2, c3, c4, c5, c6, c7, c8, c9⟩ := HP.out.a.ten; obtain ⟨d0, d1, d2⟩ := HP.out.b.trio; clear hb5) | (go_at_call 15; refine (HR.out _ (HF.out.under _ _ HK.out HP.out.below) HL.out).mono ?_; rintro r w5 ⟨rfl, hb5⟩; have HP := Lib.hid (HP.out.step hb5); have HL := Lib.hid (HL.out.step hb5); obtain ⟨c0, c1, c2, c3, c4, c5, c6, c7, c8, c9⟩ := HP.out.a.ten; obtain ⟨d0, d1, d2⟩ := HP.out.b.trio; clear hb5))
            go_ret
            exact ⟨rfl, HP.out.below⟩
          | true =>
            rw [hrt] at HR
            by_cases hn4 : 400 < o.ents.length
            · have i4 : decide ((400 : Int) < o.ents.length) = true := decide_eq_true (by omega)
              clear hs hx1 hx2 htot hrt hk2 hn4
              go_enter Tryz.func7, Tryz.ntmps7
              go_wp2_with (first | (go_at_call 8; refine (HA.out _ (HF.out.under _ _ HK.out HP.out.below)).mono ?_; rintro r w5 ⟨rfl, hb5⟩; have HP := Lib.hid (HP.out.step hb5); have HL := Lib.hid (HL.out.step hb5); obtain ⟨c0, c1, c2, c3, c4, c5, c6, c7, c8, c9⟩ := HP.out.a.ten; obtain ⟨d0, d1, d2⟩ := HP.out.b.trio; clear hb5) | (go_at_call 9; refine (HW.out _ HL.out).mono ?_; rintro r w5 ⟨rfl, hb5⟩; have HP := Lib.hid (HP.out.step hb5); have HL := Lib.hid (HL.out.step hb5); obtain ⟨c0, c1, c2, c3, c4, c5, c6, c7, c8, c9⟩ := HP.out.a.ten; obtain ⟨d0, d1, d2⟩ := HP.out.b.trio; clear hb5) | (go_at_call 15; refine (HR.out _ (HF.out.under _ _ HK.out HP.out.below) HL.out).mono ?_; rintro r w5 ⟨rfl, hb5⟩; have HP := Lib.hid (HP.out.step hb5); have HL := Lib.hid (HL.out.step hb5); obtain ⟨c0, c1, c2, c3, c4, c5, c6, c7, c8, c9⟩ := HP.out.a.ten; obtain ⟨d0, d1, d2⟩ := HP.out.b.trio; clear hb5))
              go_ret
              exact ⟨rfl, HP.out.below⟩
            · have i4 : decide ((400 : Int) < o.ents.length) = false := decide_eq_false (by omega)
              have htc : (treeC o.ents).length ≤ 40000 := by have := treeC_le o.ents; unfold total fewN entSum at htot; omega
              have HM := Lib.hid (fun hn => right_more hk2 hrt x hn (by omega) htc ⟨by omega, by omega⟩)
              have HE := Lib.hid (fun (l : List Ent) (h : l.Sublist o.ents) => right_less hk2 hrt h)
              have HS := Lib.hid (fun (l : List Ent) (h : Ob.right (withEnts o l) sp = true) => right_small h)
              have HQ := Lib.hid (right_parts hrt).1
              have hn5 : o.ents.length ≤ 400 := by omega
              have HSM := Lib.hid hs
              have HXS := Lib.hid (show x.name.size ≤ 200 ∧ x.id.size ≤ 200 by omega)
              clear hs hx1 hx2 htot hrt hk2 htc hn4
              go_enter Tryz.func7, Tryz.ntmps7
              go_upto_region 5 with (first | (go_at_call 8; refine (HA.out _ (HF.out.under _ _ HK.out HP.out.below)).mono ?_; rintro r w5 ⟨rfl, hb5⟩; have HP := Lib.hid (HP.out.step hb5); have HL := Lib.hid (HL.out.step hb5); obtain ⟨c0, c1, c2, c3, c4, c5, c6, c7, c8, c9⟩ := HP.out.a.ten; obtain ⟨d0, d1, d2⟩ := HP.out.b.trio; clear hb5) | (go_at_call 9; refine (HW.out _ HL.out).mono ?_; rintro r w5 ⟨rfl, hb5⟩; have HP := Lib.hid (HP.out.step hb5); have HL := Lib.hid (HL.out.step hb5); obtain ⟨c0, c1, c2, c3, c4, c5, c6, c7, c8, c9⟩ := HP.out.a.ten; obtain ⟨d0, d1, d2⟩ := HP.out.b.trio; clear hb5) | (go_at_call 15; refine (HR.out _ (HF.out.under _ _ HK.out HP.out.below) HL.out).mono ?_; rintro r w5 ⟨rfl, hb5⟩; have HP := Lib.hid (HP.out.step hb5); have HL := Lib.hid (HL.out.step hb5); obtain ⟨c0, c1, c2, c3, c4, c5, c6, c7, c8, c9⟩ := HP.out.a.ten; obtain ⟨d0, d1, d2⟩ := HP.out.b.trio; clear hb5))
              clear HA HW HR
              obtain ⟨i0, E0⟩ := ent_elem
              have HEL := Lib.hid E0
              clear E0
              go_wp2_with fail
              go_loopg [9, 10, 11] o.ents.length (fun g mv dv iv wr => ∃ (k : Nat) (dn : Bool) (l : List Ent) (A2 : Option Addr) (c2 : Nat), k ≤ o.ents.length ∧ g = o.ents.length - k ∧ mv = .slice A2 l.length c2 ∧ dv = .bool dn ∧ iv = .int .i64 k ∧ l.length ≤ k + 1 ∧ Below w5.heap.size w5 wr ∧ wr.ownsRow w5.heap.size 44 3 (.slice A2 l.length c2) l.length (l.flatMap entV) ∧ Mid x (o.ents.take k) dn l)
              case atStart => exact ⟨0, false, [], none, 0, Nat.zero_le _, rfl, rfl, rfl, rfl, by simp, Below.refl _ _, ⟨rfl, .inl ⟨rfl, rfl⟩⟩, mid_start x⟩
              case round =>
                obtain ⟨k, dn, l, A2, cc2, hk, rfl, rfl, rfl, rfl, hlk, hbl, hown, hmid⟩ := hrel
                by_cases hlt : k < o.ents.length
                · have h1 : (k : Int) < o.ents.length := by omega
                  have h0 : (0 : Int) ≤ k := by omega
                  obtain ⟨ad, eA, _, _⟩ := HL.out.ents k hlt
                  have HC := Lib.hid (fun (V : World) (hb : Below w5.heap.size w5 V) => show ∀ j, j < 3 → V.cell? ((ad.add (k * 3)).add j) = (entV (o.ents.getD k default))[j]? from by
                    obtain ⟨ad', e', _, hc⟩ := (HL.out.ents.below hb) k hlt
                    rw [eA] at e'
                    obtain rfl := Option.some.inj e'
                    exact hc)
                  have HTK := Lib.hid (ent_take_snoc hlt)
                  have HMID := Lib.hid hmid
                  generalize o.ents.getD k default = e at *
                  subst eA
                  have hbd1 := hbl.drew
                  have hbd2 := hbl.drew.drew
                  clear hmid
                  obtain ⟨c0, c1, c2, c3, c4, c5, c6, c7, c8, c9⟩ := (HP.out.step hbl).a.ten
                  obtain ⟨d0, d1, d2⟩ := (HP.out.step hbl).b.trio
                  have hcc := fun j hj => HC.out wr hbl j hj
                  have e0 : wr.cell? (ad.add (k * 3)) = some (.int .i64 e.mode) := by have := hcc 0 (by omega); rwa [show (ad.add (k * 3)).add 0 = ad.add (k * 3) from rfl] at this
                  have e1 : wr.cell? ⟨(ad.add (k * 3)).block, (ad.add (k * 3)).off + 1, none⟩ = some (.string e.name) := hcc 1 (by omega)
                  have e2 : wr.cell? ⟨(ad.add (k * 3)).block, (ad.add (k * 3)).off + 2, none⟩ = some (.string e.id) := hcc 2 (by omega)
                  clear hcc
                  by_cases hne : e.name = x.name
                  · have q5 := str_beq hne
                    have HOUT := Lib.hid (HP.out.step hbd1).below
                    clear hown hbl hbd1 hbd2 hne
                    go_wp2
                    refine wp_region_still_lit (by kernel_rfl) (by kernel_rfl) ?_
                    change wpStill _ _ (World.drew _) (fun a' => Exit.then _ _ _ a' (World.drew _)) _ _
                    iterate 9 still_step
                    refine wpStill_nil ?_
                    go_wp2
                    go_ret
                    exact ⟨rfl, HOUT.out⟩
                  · have q5 := str_bne hne
                    have hmne : ¬ bl e.name = bl x.name := fun h => hne (bl_inj h)
                    have hown2 : wr.drew.drew.ownsRow w5.heap.size 44 3 (.slice A2 l.length cc2) l.length (l.flatMap entV) := hown
                    go_wp2
                    refine wp_region_still_lit (by kernel_rfl) (by kernel_rfl) ?_
                    change wpStill _ _ (World.drew _) (fun a' => Exit.then _ _ _ a' (World.drew _)) _ _
                    iterate 9 still_step
                    refine wpStill_nil ?_
                    go_wp2_with fail
                    cases dn with
                    | true =>
                      refine wp_region_still_lit (by kernel_rfl) (by kernel_rfl) ?_
                      change wpStill _ _ (World.drew _) (fun a' => Exit.then _ _ _ a' (World.drew _)) _ _
                      iterate 3 still_step
                      iterate 9 ((with_reducible refine Hw.wpStill_skip ?_ ?_); rfl; go_simp)
                      iterate 1 still_step
                      refine wpStill_nil ?_
                      generalize wr.drew.drew = V at *
                      clear c0 c1 c2 c3 c4 c5 c6 c7 c8 c9 d0 d1 d2 e0 e1 e2 hbd1 hbl hown
                      obtain ⟨c0, c1, c2, c3, c4, c5, c6, c7, c8, c9⟩ := (HP.out.step hbd2).a.ten
                      obtain ⟨d0, d1, d2⟩ := (HP.out.step hbd2).b.trio
                      have hcc := fun j hj => HC.out V hbd2 j hj
                      have e0 : V.cell? (ad.add (k * 3)) = some (.int .i64 e.mode) := by have := hcc 0 (by omega); rwa [show (ad.add (k * 3)).add 0 = ad.add (k * 3) from rfl] at this
                      have e1 : V.cell? ⟨(ad.add (k * 3)).block, (ad.add (k * 3)).off + 1, none⟩ = some (.string e.name) := hcc 1 (by omega)
                      have e2 : V.cell? ⟨(ad.add (k * 3)).block, (ad.add (k * 3)).off + 2, none⟩ = some (.string e.id) := hcc 2 (by omega)
                      clear hcc
                      obtain ⟨v1, y1, hrun1, ho1, hg1, _⟩ := app_recs HEL.out entV_len entV_one (V.alloc (.cells #[.int .i64 e.mode, .string e.name, .string e.id] 44)) w5.heap.size _ (l) [e] (some ⟨V.heap.size, 0, none⟩) 1 _ 22 (hown2.alloc _) (one_ent V e) (by first | omega | (simp; omega)) (by simp) (by have := hbd2.size; simp; omega)
                      have hb1 : Below w5.heap.size w5 y1 := (hbd2.alloc hbd2.size _).grown hg1 (by have := hbd2.size; simp; omega) (fun i hi => (hown2.lt i hi).1)
                      obtain ⟨A1, c1', rfl⟩ := own_ents ho1
                      have HRUN1 := Lib.hid hrun1
                      try simp only [List.length_append, List.length_cons, List.length_nil, Nat.zero_add] at HRUN1
                      clear hrun1 hg1
                      have HX := Lib.hid (And.intro ho1 (And.intro hb1 (show Mid x (o.ents.take (k + 1)) true (l ++ [e]) from by rw [HTK.out]; exact HMID.out.more hmne)))
                      clear ho1 hb1 hbd2 hown2 hne hmne
                      go_wp2_with (at_builtin; refine wpList_append_run rfl (.tmp 82) (.tmp 88) 22 22 rfl _ _ _ y1 rfl rfl HRUN1.out ?_)
                      go_roundg (o.ents.length - (k + 1))
                      case rel => exact ⟨k + 1, true, l ++ [e], A1, c1', by omega, rfl, by simp, rfl, by go_num, by simp; omega, HX.out.2.1, HX.out.1, HX.out.2.2⟩
                      case measure => omega
                    | false =>
                      by_cases hls : bl x.name < bl e.name
                      · have q6 : Op.bytesLess x.name.toList e.name.toList = true := by rw [bytesLess_eq, toList_bl, toList_bl]; exact decide_eq_true hls
                        refine wp_region_still_lit (by kernel_rfl) (by kernel_rfl) ?_
                        change wpStill _ _ (World.drew _) (fun a' => Exit.then _ _ _ a' (World.drew _)) _ _
                        iterate 13 still_step
                        refine wpStill_nil ?_
                        generalize wr.drew.drew = V at *
                        clear c0 c1 c2 c3 c4 c5 c6 c7 c8 c9 d0 d1 d2 e0 e1 e2 hbd1 hbl hown
                        obtain ⟨c0, c1, c2, c3, c4, c5, c6, c7, c8, c9⟩ := (HP.out.step hbd2).a.ten
                        obtain ⟨d0, d1, d2⟩ := (HP.out.step hbd2).b.trio
                        have hcc := fun j hj => HC.out V hbd2 j hj
                        have e0 : V.cell? (ad.add (k * 3)) = some (.int .i64 e.mode) := by have := hcc 0 (by omega); rwa [show (ad.add (k * 3)).add 0 = ad.add (k * 3) from rfl] at this
                        have e1 : V.cell? ⟨(ad.add (k * 3)).block, (ad.add (k * 3)).off + 1, none⟩ = some (.string e.name) := hcc 1 (by omega)
                        have e2 : V.cell? ⟨(ad.add (k * 3)).block, (ad.add (k * 3)).off + 2, none⟩ = some (.string e.id) := hcc 2 (by omega)
                        clear hcc
                        obtain ⟨v1, y1, hrun1, ho1, hg1, _⟩ := app_recs HEL.out entV_len entV_one (V.alloc (.cells #[.int .i64 x.mode, .string x.name, .string x.id] 44)) w5.heap.size _ (l) [x] (some ⟨V.heap.size, 0, none⟩) 1 _ 22 (hown2.alloc _) (one_ent V x) (by first | omega | (simp; omega)) (by simp) (by have := hbd2.size; simp; omega)
                        have hb1 : Below w5.heap.size w5 y1 := (hbd2.alloc hbd2.size _).grown hg1 (by have := hbd2.size; simp; omega) (fun i hi => (hown2.lt i hi).1)
                        obtain ⟨A1, c1', rfl⟩ := own_ents ho1
                        have HRUN1 := Lib.hid hrun1
                        try simp only [List.length_append, List.length_cons, List.length_nil, Nat.zero_add] at HRUN1
                        clear hrun1 hg1
                        go_upto_region 14 with (at_builtin; refine wpList_append_run rfl (.tmp 78) (.tmp 80) 22 22 rfl _ _ _ y1 rfl rfl HRUN1.out ?_)
                        clear c0 c1 c2 c3 c4 c5 c6 c7 c8 c9 d0 d1 d2 e0 e1 e2 hbd2 hown2
                        obtain ⟨c0, c1, c2, c3, c4, c5, c6, c7, c8, c9⟩ := (HP.out.step hb1).a.ten
                        obtain ⟨d0, d1, d2⟩ := (HP.out.step hb1).b.trio
                        have hcc := fun j hj => HC.out y1 hb1 j hj
                        have e0 : y1.cell? (ad.add (k * 3)) = some (.int .i64 e.mode) := by have := hcc 0 (by omega); rwa [show (ad.add (k * 3)).add 0 = ad.add (k * 3) from rfl] at this
                        have e1 : y1.cell? ⟨(ad.add (k * 3)).block, (ad.add (k * 3)).off + 1, none⟩ = some (.string e.name) := hcc 1 (by omega)
                        have e2 : y1.cell? ⟨(ad.add (k * 3)).block, (ad.add (k * 3)).off + 2, none⟩ = some (.string e.id) := hcc 2 (by omega)
                        clear hcc
                        obtain ⟨v2, y2, hrun2, ho2, hg2, _⟩ := app_recs HEL.out entV_len entV_one (y1.alloc (.cells #[.int .i64 e.mode, .string e.name, .string e.id] 44)) w5.heap.size _ (l ++ [x]) [e] (some ⟨y1.heap.size, 0, none⟩) 1 _ 22 (ho1.alloc _) (one_ent y1 e) (by first | omega | (simp; omega)) (by simp) (by have := hb1.size; simp; omega)
                        have hb2 : Below w5.heap.size w5 y2 := (hb1.alloc hb1.size _).grown hg2 (by have := hb1.size; simp; omega) (fun i hi => (ho1.lt i hi).1)
                        obtain ⟨A2, c2', rfl⟩ := own_ents ho2
                        have HRUN2 := Lib.hid hrun2
                        try simp only [List.length_append, List.length_cons, List.length_nil, Nat.zero_add] at HRUN2
                        clear hrun2 hg2
                        have HX := Lib.hid (And.intro ho2 (And.intro hb2 (show Mid x (o.ents.take (k + 1)) true (l ++ [x] ++ [e]) from by rw [HTK.out]; exact HMID.out.put hmne hls)))
                        have HLL := Lib.hid (show l.length ≤ k from by have := (HMID.out.2.1 rfl).1; rw [this, List.length_take]; omega)
                        clear ho1 ho2 hb1 hb2 hne hmne hls
                        go_wp2_with (at_builtin; refine wpList_append_run rfl (.tmp 82) (.tmp 88) 22 22 rfl _ _ _ y2 rfl rfl HRUN2.out ?_)
                        go_roundg (o.ents.length - (k + 1))
                        case rel => exact ⟨k + 1, true, l ++ [x] ++ [e], A2, c2', by omega, rfl, by simp, rfl, by go_num, by have := HLL.out; simp; omega, HX.out.2.1, HX.out.1, HX.out.2.2⟩
                        case measure => omega
                      · have q6 : Op.bytesLess x.name.toList e.name.toList = false := by rw [bytesLess_eq, toList_bl, toList_bl]; exact decide_eq_false hls
                        refine wp_region_still_lit (by kernel_rfl) (by kernel_rfl) ?_
                        change wpStill _ _ (World.drew _) (fun a' => Exit.then _ _ _ a' (World.drew _)) _ _
                        iterate 13 still_step
                        refine wpStill_nil ?_
                        generalize wr.drew.drew = V at *
                        clear c0 c1 c2 c3 c4 c5 c6 c7 c8 c9 d0 d1 d2 e0 e1 e2 hbd1 hbl hown
                        obtain ⟨c0, c1, c2, c3, c4, c5, c6, c7, c8, c9⟩ := (HP.out.step hbd2).a.ten
                        obtain ⟨d0, d1, d2⟩ := (HP.out.step hbd2).b.trio
                        have hcc := fun j hj => HC.out V hbd2 j hj
                        have e0 : V.cell? (ad.add (k * 3)) = some (.int .i64 e.mode) := by have := hcc 0 (by omega); rwa [show (ad.add (k * 3)).add 0 = ad.add (k * 3) from rfl] at this
                        have e1 : V.cell? ⟨(ad.add (k * 3)).block, (ad.add (k * 3)).off + 1, none⟩ = some (.string e.name) := hcc 1 (by omega)
                        have e2 : V.cell? ⟨(ad.add (k * 3)).block, (ad.add (k * 3)).off + 2, none⟩ = some (.string e.id) := hcc 2 (by omega)
                        clear hcc
                        obtain ⟨v1, y1, hrun1, ho1, hg1, _⟩ := app_recs HEL.out entV_len entV_one (V.alloc (.cells #[.int .i64 e.mode, .string e.name, .string e.id] 44)) w5.heap.size _ (l) [e] (some ⟨V.heap.size, 0, none⟩) 1 _ 22 (hown2.alloc _) (one_ent V e) (by first | omega | (simp; omega)) (by simp) (by have := hbd2.size; simp; omega)
                        have hb1 : Below w5.heap.size w5 y1 := (hbd2.alloc hbd2.size _).grown hg1 (by have := hbd2.size; simp; omega) (fun i hi => (hown2.lt i hi).1)
                        obtain ⟨A1, c1', rfl⟩ := own_ents ho1
                        have HRUN1 := Lib.hid hrun1
                        try simp only [List.length_append, List.length_cons, List.length_nil, Nat.zero_add] at HRUN1
                        clear hrun1 hg1
                        have HX := Lib.hid (And.intro ho1 (And.intro hb1 (show Mid x (o.ents.take (k + 1)) false (l ++ [e]) from by rw [HTK.out]; exact HMID.out.pass hmne hls)))
                        clear ho1 hb1 hbd2 hown2 hne hmne hls
                        go_wp2_with (at_builtin; refine wpList_append_run rfl (.tmp 82) (.tmp 88) 22 22 rfl _ _ _ y1 rfl rfl HRUN1.out ?_)
                        go_roundg (o.ents.length - (k + 1))
                        case rel => exact ⟨k + 1, false, l ++ [e], A1, c1', by omega, rfl, by simp, rfl, by go_num, by simp; omega, HX.out.2.1, HX.out.1, HX.out.2.2⟩
                        case measure => omega
                · have h1 : ¬ (k : Int) < o.ents.length := by omega
                  obtain rfl : k = o.ents.length := by omega
                  rw [List.take_length] at hmid
                  have HN5 := Lib.hid hmid.1
                  obtain ⟨c0, c1, c2, c3, c4, c5, c6, c7, c8, c9⟩ := (HP.out.step hbl).a.ten
                  obtain ⟨d0, d1, d2⟩ := (HP.out.step hbl).b.trio
                  cases dn with
                  | true =>
                    obtain rfl := (hmid.2.2 rfl).1
                    clear hmid
                    go_upto_region 18 with fail
                    have HP := Lib.hid (HP.out.step hbl)
                    have HL := Lib.hid (HL.out.step hbl)
                    obtain ⟨A6, c6', hv6, _, hrec⟩ := recs_own entV_len (by omega) hown
                    injection hv6 with hv1 hv2 hv3
                    subst hv1 hv3
                    have HRC := Lib.hid hrec
                    generalize wr = V at *
                    clear hv2 hrec hown hbl c0 c1 c2 c3 c4 c5 c6 c7 c8 c9 d0 d1 d2
                    obtain ⟨c0, c1, c2, c3, c4, c5, c6, c7, c8, c9⟩ := HP.out.a.ten; obtain ⟨d0, d1, d2⟩ := HP.out.b.trio
                    rcases HQ.out with rfl | rfl
                    · go_upto_region 21 with fail
                      have HE1 := Lib.hid (show entOk 20 x = (decide (1 ≤ x.mode) && decide (x.mode ≤ 3) && entryName (bl x.name) && decide (x.id.size = 20)) from rfl)
                      go_cut [13] (fun s13 wx => s13 = .bool (entOk 20 x) ∧ Below V.heap.size V wx)
                      case first =>
                        by_cases m1 : 1 ≤ x.mode
                        · by_cases m3 : x.mode ≤ 3
                          · have HN := Lib.hid (fun W h => HF.out.ent x.name W h (by have := HXS.out; omega))
                            cases hen : entryName (bl x.name) with
                            | true =>
                              rw [hen] at HN
                              by_cases hid : x.id.size = 20
                              · have z1 : ((x.id.size : Int) == 20) = true := by simp [hid]
                                go_wp2_with (go_at_call 20; refine (HN.out _ (HF.out.under _ _ HK.out HP.out.below)).mono ?_; rintro r w6 ⟨rfl, hb6⟩; obtain ⟨d0, d1, d2⟩ := (HP.out.step hb6).b.trio)
                                go_meet
                                exact ⟨by rw [HE1.out, decide_eq_true m1, decide_eq_true m3, hen, decide_eq_true hid] <;> rfl, hb6⟩
                              · have z1 : ((x.id.size : Int) == 20) = false := beq_eq_false_iff_ne.2 (by omega)
                                go_wp2_with (go_at_call 20; refine (HN.out _ (HF.out.under _ _ HK.out HP.out.below)).mono ?_; rintro r w6 ⟨rfl, hb6⟩; obtain ⟨d0, d1, d2⟩ := (HP.out.step hb6).b.trio)
                                go_meet
                                exact ⟨by rw [HE1.out, decide_eq_true m1, decide_eq_true m3, hen, decide_eq_false hid] <;> rfl, hb6⟩
                            | false =>
                              rw [hen] at HN
                              go_wp2_with (go_at_call 20; refine (HN.out _ (HF.out.under _ _ HK.out HP.out.below)).mono ?_; rintro r w6 ⟨rfl, hb6⟩; obtain ⟨d0, d1, d2⟩ := (HP.out.step hb6).b.trio)
                              go_meet
                              exact ⟨by rw [HE1.out, decide_eq_true m1, decide_eq_true m3, hen] <;> rfl, hb6⟩
                          · skip
                            go_wp2_with fail
                            go_meet
                            exact ⟨by rw [HE1.out, decide_eq_true m1, decide_eq_false (by omega)] <;> rfl, Below.refl _ _⟩
                        · skip
                          go_wp2_with fail
                          go_meet
                          exact ⟨by rw [HE1.out, decide_eq_false (by omega)] <;> rfl, Below.refl _ _⟩
                      case rest =>
                        obtain ⟨rfl, hbx⟩ := hcut
                        have HP := Lib.hid (HP.out.step hbx)
                        have HL := Lib.hid (HL.out.step hbx)
                        have HRC := Lib.hid ((HRC.out.below hbx).mono hbx.size)
                        generalize wc = V2 at *
                        clear hbx c0 c1 c2 c3 c4 c5 c6 c7 c8 c9 d0 d1 d2 HE1
                        obtain ⟨c0, c1, c2, c3, c4, c5, c6, c7, c8, c9⟩ := HP.out.a.ten; obtain ⟨d0, d1, d2⟩ := HP.out.b.trio
                        go_upto_region 24 with fail
                        have hg3 := HP.out.b.lt
                        have hbv := (Below.refl V2.heap.size V2).alloc (Nat.le_refl _) (.cells (objC (withEnts o (putIn x o.ents)) A2 cc2 P d) 25)
                        have HB3 := Lib.hid (box_new V2 25 (objC (withEnts o (putIn x o.ents)) A2 cc2 P d))
                        replace HP := Lib.hid (HP.out.step hbv)
                        replace HL := Lib.hid (HL.out.step hbv)
                        replace HRC := Lib.hid ((HRC.out.below hbv).mono hbv.size)
                        have RM := HM.out HN5.out
                        rw [show spSize 1 = 20 from rfl] at RM
                        have R4 := Lib.hid (fun W h (hl : Lies W W.heap.size (withEnts o (putIn x o.ents)) A2 P) => HF.out.right (withEnts o (putIn x o.ents)) A2 cc2 P d 1 W h hl (small_put HSM.out HXS.out hn5) HD.out)
                        rw [RM] at R4
                        generalize entOk 20 x = may at *
                        have z5 : (may != may) = false := by simp
                        change Code.wp _ _ _ _ (V2.alloc (.cells (objC (withEnts o (putIn x o.ents)) A2 cc2 P d) 25))
                        generalize hV3 : V2.alloc (.cells (objC (withEnts o (putIn x o.ents)) A2 cc2 P d) 25) = V3 at *
                        generalize V2.heap.size = g3 at *
                        clear hbv c0 c1 c2 c3 c4 c5 c6 c7 c8 c9 d0 d1 d2 RM
                        obtain ⟨c0, c1, c2, c3, c4, c5, c6, c7, c8, c9⟩ := HP.out.a.ten; obtain ⟨d0, d1, d2⟩ := HP.out.b.trio
                        obtain ⟨e0, e1, e2, e3, e4, e5, e6, e7, e8, e9⟩ := HB3.out.ten
                        go_upto_region 26 with (go_at_call 15; refine (R4.out _ (HF.out.under _ _ HK.out HP.out.below) ⟨HRC.out, HL.out.pars⟩).mono ?_; rintro r w6 ⟨rfl, hb6⟩; have HP := Lib.hid (HP.out.step hb6); have HL := Lib.hid (HL.out.step hb6); have HB3 := Lib.hid (HB3.out.step hb6); obtain ⟨c0, c1, c2, c3, c4, c5, c6, c7, c8, c9⟩ := HP.out.a.ten; obtain ⟨d0, d1, d2⟩ := HP.out.b.trio; obtain ⟨e0, e1, e2, e3, e4, e5, e6, e7, e8, e9⟩ := HB3.out.ten; have f3 := HB3.out.free 2; clear hb6)
                        clear R4 HRC HN5 HXS HM
                        by_cases hw0 : wh < 0
                        · go_wp2_with fail
                          go_ret
                          exact ⟨rfl, HP.out.below⟩
                        · by_cases hw1 : (o.ents.length : Int) ≤ wh
                          · go_wp2_with fail
                            go_ret
                            exact ⟨rfl, HP.out.below⟩
                          · obtain ⟨n, rfl⟩ : ∃ n : Nat, wh = n := ⟨wh.toNat, by omega⟩
                            have hn0 : n < o.ents.length := by omega
                            obtain ⟨A7, c7', A8, c8', hs1, hs2, hrt, hrd⟩ := ent_slices HL.out.ents hn0 hcap
                            have hT : (o.ents.take n).length = n := by rw [List.length_take]; omega
                            have hD : (o.ents.drop (n + 1)).length = o.ents.length - (n + 1) := by rw [List.length_drop]
                            have hw9 : IntKind.i64.wrap ((n : Int) + 1) = (n : Int) + 1 := IntWalk.i64_in _ (by omega)
                            have HRR := HE.out (o.ents.take n ++ o.ents.drop (n + 1)) (by rw [← List.eraseIdx_eq_take_drop_succ]; exact List.eraseIdx_sublist _ _)
                            have R6 := Lib.hid (fun A c W h (hl : Lies W W.heap.size (withEnts o (o.ents.take n ++ o.ents.drop (n + 1))) A P) => show Calls Tryz.prog 15 #[.agg (objC (withEnts o (o.ents.take n ++ o.ents.drop (n + 1))) A c P d), .int .i64 1] W fun e w' => e = .returned (.bool true) ∧ Below W.heap.size W w' from by
                              have := HF.out.right (withEnts o (o.ents.take n ++ o.ents.drop (n + 1))) A c P d 1 W h hl (right_small HRR) HD.out
                              rwa [HRR] at this)
                            obtain ⟨i9, E9⟩ := ent_elem
                            have HEL := Lib.hid E9
                            clear E9 HRR
                            go_wp2_with fail
                            refine wp_region_seq (fun W => W.cell? ⟨w.heap.size, 2, none⟩ = some (.slice A o.ents.length c)) [(1, false, 0), (2, false, 2), (3, false, 6), (4, false, 14), (6, false, 30), (7, false, 94), (8, false, 222), (9, false, 478), (10, false, 990), (0, true, 2014), (5, true, 2015), (11, true, 2047), (12, false, 4095), (13, true, 8191)]
                              14 (by kernel_rfl) (by kernel_rfl) (by kernel_rfl) (fun d _ _ _ _ h => by cases d <;> exact h) (by kernel_rfl) (by kernel_rfl) (by rw [World.cell?_drew]; exact c2) ?_
                            have hbd : Below w6.heap.size w6 w6.drew := (Below.refl _ _).drew
                            replace HP := Lib.hid (HP.out.step hbd)
                            replace HL := Lib.hid (HL.out.step hbd)
                            replace HB3 := Lib.hid (HB3.out.step hbd)
                            have HRT := Lib.hid ((hrt.below hbd).mono hbd.size)
                            have HRD := Lib.hid ((hrd.below hbd).mono hbd.size)
                            clear hbd hrt hrd c0 c1 c2 c3 c4 c5 c6 c7 c8 c9 d0 d1 d2 e0 e1 e2 e3 e4 e5 e6 e7 e8 e9
                            generalize w6.drew = W0 at *
                            have hr0 : Below W0.heap.size W0 W0 := Below.refl _ _
                            have HS9 := Lib.hid (fun (W : World) (hb : Below W0.heap.size W0 W) => (HP.out.step hb).a.ten.2.2.1)
                            refine seqH_take (.pointer (some ⟨w.heap.size, 2, none⟩)) rfl (Or.inl ⟨by rfl, fun W hW => by go_simp⟩) ?_
                            go_simp
                            refine seqH_take (.slice A o.ents.length c) rfl (Or.inl ⟨by rfl, fun W hW => by have hx := hW; clear hW; go_simp⟩) ?_
                            go_simp
                            refine seqH_take (.int .i64 n) rfl (Or.inl ⟨by rfl, fun W hW => by go_simp⟩) ?_
                            go_simp
                            refine seqH_take (.slice A7 n c7') rfl (Or.inl ⟨by rfl, fun W hW => by go_simp⟩) ?_
                            go_simp
                            refine seqH_take (.pointer (some ⟨w.heap.size, 2, none⟩)) rfl (Or.inl ⟨by rfl, fun W hW => by go_simp⟩) ?_
                            go_simp
                            refine seqH_take (.slice A o.ents.length c) rfl (Or.inl ⟨by rfl, fun W hW => by have hx := hW; clear hW; go_simp⟩) ?_
                            go_simp
                            refine seqH_take (.int .i64 n) rfl (Or.inl ⟨by rfl, fun W hW => by go_simp⟩) ?_
                            go_simp
                            refine seqH_take (.int .i64 ((n : Int) + 1)) rfl (Or.inl ⟨by rfl, fun W hW => by go_simp⟩) ?_
                            go_simp
                            refine seqH_take (.slice A8 (o.ents.length - (n + 1)) c8') rfl (Or.inl ⟨by rfl, fun W hW => by go_simp⟩) ?_
                            go_simp
                            refine seqH_call rfl (by rfl) (fun K hK => ?_)
                            have HKK := Lib.hid hK
                            clear hK
                            go_simp
                            have hb2 : Below W0.heap.size W0 (W0.alloc (.cells #[] 44)) := hr0.alloc hr0.size _
                            have ho3 : (W0.alloc (.cells #[] 44)).ownsRow W0.heap.size 44 3 (.slice (some ⟨W0.heap.size, 0, none⟩) 0 0) ([] : List Ent).length (([] : List Ent).flatMap entV) := ⟨rfl, .inr ⟨W0.heap.size, 0, #[], rfl, hr0.size, heap_alloc_new W0 _, Nat.le_refl _, Nat.zero_le _, rfl, rfl⟩⟩
                            refine HKK.out _ _ (HS9.out _ hb2) ?_
                            clear HKK K
                            generalize W0.alloc (.cells #[] 44) = y1 at *
                            go_simp
                            refine seqH_call rfl (by rfl) (fun K hK => ?_)
                            have HKK := Lib.hid hK
                            clear hK
                            obtain ⟨v6, y5, HR10, ho7, hg8, _⟩ := app_recs HEL.out entV_len entV_one y1 W0.heap.size (.slice (some ⟨W0.heap.size, 0, none⟩) 0 0) [] (o.ents.take n) A7 c7' _ 22 ho3 ((HRT.out.below hb2).mono hb2.size) (by simp) (by omega) hb2.size
                            have hb9 : Below W0.heap.size W0 y5 := hb2.grown hg8 hb2.size (fun i hi => (ho3.lt i hi).1)
                            obtain ⟨A11, c12, rfl⟩ := own_ents ho7
                            have HHR10 := Lib.hid HR10
                            simp only [List.nil_append, hT] at HHR10
                            clear HR10
                            unfold Oper.wp
                            simp [execOp, resolve, invoke, builtin, Act.eval, HHR10.out, Result.andThen, Oper.upon]
                            refine HKK.out _ _ (HS9.out _ hb9) ?_
                            clear HKK K
                            go_simp
                            have ho13 : y5.ownsRow W0.heap.size 44 3 (.slice A11 n c12) (o.ents.take n).length ((o.ents.take n).flatMap entV) := by have := ho7; simp only [List.nil_append, hT] at this ⊢; exact this
                            refine seqH_call rfl (by rfl) (fun K hK => ?_)
                            have HKK := Lib.hid hK
                            clear hK
                            obtain ⟨v20, y19, HR24, ho21, hg22, _⟩ := app_recs HEL.out entV_len entV_one y5 W0.heap.size (.slice A11 n c12) (o.ents.take n) (o.ents.drop (n + 1)) A8 c8' _ 22 ho13 ((HRD.out.below hb9).mono hb9.size) (by omega) (by omega) hb9.size
                            have hb23 : Below W0.heap.size W0 y19 := hb9.grown hg22 hb9.size (fun i hi => (ho13.lt i hi).1)
                            obtain ⟨A25, c26, rfl⟩ := own_ents ho21
                            have HHR24 := Lib.hid HR24
                            simp only [hD] at HHR24
                            clear HR24
                            unfold Oper.wp
                            simp [execOp, resolve, invoke, builtin, Act.eval, HHR24.out, Result.andThen, Oper.upon]
                            refine HKK.out _ _ (HS9.out _ hb23) ?_
                            clear HKK K
                            go_simp
                            refine seqH_take (.pointer (some ⟨g3, 2, none⟩)) rfl (Or.inl ⟨by rfl, fun W hW => by go_simp⟩) ?_
                            go_simp
                            have k2 := (HB3.out.step hb23).ten.2.2.1
                            have f2 := (HB3.out.step hb23).free 2
                            refine seqH_call rfl (by rfl) (fun K hK => ?_)
                            have HKK := Lib.hid hK
                            clear hK
                            go_simp
                            have hlen : min n o.ents.length + (o.ents.length - (n + 1)) = (o.ents.take n ++ o.ents.drop (n + 1)).length := by rw [List.length_append, List.length_take, List.length_drop]
                            rw [hlen]
                            have hsc : Below g3 y19 (y19.setCell ⟨g3, 2, none⟩ (.slice A25 (o.ents.take n ++ o.ents.drop (n + 1)).length c26)) := (Below.refl g3 y19).setCell (p := ⟨g3, 2, none⟩) (Nat.le_refl _) _
                            have ha9 : BoxAt (y19.setCell ⟨g3, 2, none⟩ (.slice A25 (o.ents.take n ++ o.ents.drop (n + 1)).length c26)) w.heap.size 25 (objC o A c P d) := (hsc.block _ (by omega)).trans (HP.out.step hb23).a
                            have hb9' : Below w.heap.size w (y19.setCell ⟨g3, 2, none⟩ (.slice A25 (o.ents.take n ++ o.ents.drop (n + 1)).length c26)) := (HP.out.step hb23).below.trans (hsc.mono (by omega))
                            have hbx9 : BoxAt (y19.setCell ⟨g3, 2, none⟩ (.slice A25 (o.ents.take n ++ o.ents.drop (n + 1)).length c26)) g3 25 (objC (withEnts o (o.ents.take n ++ o.ents.drop (n + 1))) A25 c26 P d) := Hg.heap_setCell_cells (HB3.out.step hb23) 2 (.slice A25 (o.ents.take n ++ o.ents.drop (n + 1)).length c26)
                            have how := own_set ho21 (p := ⟨g3, 2, none⟩) HB3.out.lt (.slice A25 (o.ents.take n ++ o.ents.drop (n + 1)).length c26)
                            obtain ⟨A30, c30, hv30, _, hrec30⟩ := recs_own entV_len (by omega) how
                            injection hv30 with hv1 hv2 hv3
                            subst hv1 hv3
                            refine HKK.out _ _ ha9.ten.2.2.1 ?_
                            clear HKK K hv2 how hsc k2 f2 hlen
                            refine seqH_done ?_
                            have HL9 := Lib.hid (show Lies (y19.setCell ⟨g3, 2, none⟩ (.slice A25 (o.ents.take n ++ o.ents.drop (n + 1)).length c26)) (y19.setCell ⟨g3, 2, none⟩ (.slice A25 (o.ents.take n ++ o.ents.drop (n + 1)).length c26)).heap.size (withEnts o (o.ents.take n ++ o.ents.drop (n + 1))) A25 P from ⟨hrec30, strs_mono (HB0.out.pars.below hb9') hb9'.size⟩)
                            have HB9 := Lib.hid hb9'
                            have HX9 := Lib.hid hbx9
                            clear hrec30 hb9' hbx9 ha9 ho21 ho13 ho7 ho3 hg22 hg8 hb23 hb9 hb2 hr0 hs1 hs2 hT hD
                            generalize (y19.setCell ⟨g3, 2, none⟩ (.slice A25 (o.ents.take n ++ o.ents.drop (n + 1)).length c26)) = W9 at *
                            obtain ⟨e0, e1, e2, e3, e4, e5, e6, e7, e8, e9⟩ := HX9.out.ten
                            go_wp2_with (go_at_call 15; refine (R6.out _ _ _ (HF.out.under _ _ HK.out HB9.out) HL9.out).mono ?_; rintro r w8 ⟨rfl, hb8⟩)
                            go_ret
                            exact ⟨rfl, HB9.out.trans (hb8.mono HB9.out.size)⟩
                    · go_upto_region 21 with fail
                      have HE1 := Lib.hid (show entOk 32 x = (decide (1 ≤ x.mode) && decide (x.mode ≤ 3) && entryName (bl x.name) && decide (x.id.size = 32)) from rfl)
                      go_cut [13] (fun s13 wx => s13 = .bool (entOk 32 x) ∧ Below V.heap.size V wx)
                      case first =>
                        by_cases m1 : 1 ≤ x.mode
                        · by_cases m3 : x.mode ≤ 3
                          · have HN := Lib.hid (fun W h => HF.out.ent x.name W h (by have := HXS.out; omega))
                            cases hen : entryName (bl x.name) with
                            | true =>
                              rw [hen] at HN
                              by_cases hid : x.id.size = 32
                              · have z1 : ((x.id.size : Int) == 32) = true := by simp [hid]
                                go_wp2_with (go_at_call 20; refine (HN.out _ (HF.out.under _ _ HK.out HP.out.below)).mono ?_; rintro r w6 ⟨rfl, hb6⟩; obtain ⟨d0, d1, d2⟩ := (HP.out.step hb6).b.trio)
                                go_meet
                                exact ⟨by rw [HE1.out, decide_eq_true m1, decide_eq_true m3, hen, decide_eq_true hid] <;> rfl, hb6⟩
                              · have z1 : ((x.id.size : Int) == 32) = false := beq_eq_false_iff_ne.2 (by omega)
                                go_wp2_with (go_at_call 20; refine (HN.out _ (HF.out.under _ _ HK.out HP.out.below)).mono ?_; rintro r w6 ⟨rfl, hb6⟩; obtain ⟨d0, d1, d2⟩ := (HP.out.step hb6).b.trio)
                                go_meet
                                exact ⟨by rw [HE1.out, decide_eq_true m1, decide_eq_true m3, hen, decide_eq_false hid] <;> rfl, hb6⟩
                            | false =>
                              rw [hen] at HN
                              go_wp2_with (go_at_call 20; refine (HN.out _ (HF.out.under _ _ HK.out HP.out.below)).mono ?_; rintro r w6 ⟨rfl, hb6⟩; obtain ⟨d0, d1, d2⟩ := (HP.out.step hb6).b.trio)
                              go_meet
                              exact ⟨by rw [HE1.out, decide_eq_true m1, decide_eq_true m3, hen] <;> rfl, hb6⟩
                          · skip
                            go_wp2_with fail
                            go_meet
                            exact ⟨by rw [HE1.out, decide_eq_true m1, decide_eq_false (by omega)] <;> rfl, Below.refl _ _⟩
                        · skip
                          go_wp2_with fail
                          go_meet
                          exact ⟨by rw [HE1.out, decide_eq_false (by omega)] <;> rfl, Below.refl _ _⟩
                      case rest =>
                        obtain ⟨rfl, hbx⟩ := hcut
                        have HP := Lib.hid (HP.out.step hbx)
                        have HL := Lib.hid (HL.out.step hbx)
                        have HRC := Lib.hid ((HRC.out.below hbx).mono hbx.size)
                        generalize wc = V2 at *
                        clear hbx c0 c1 c2 c3 c4 c5 c6 c7 c8 c9 d0 d1 d2 HE1
                        obtain ⟨c0, c1, c2, c3, c4, c5, c6, c7, c8, c9⟩ := HP.out.a.ten; obtain ⟨d0, d1, d2⟩ := HP.out.b.trio
                        go_upto_region 24 with fail
                        have hg3 := HP.out.b.lt
                        have hbv := (Below.refl V2.heap.size V2).alloc (Nat.le_refl _) (.cells (objC (withEnts o (putIn x o.ents)) A2 cc2 P d) 25)
                        have HB3 := Lib.hid (box_new V2 25 (objC (withEnts o (putIn x o.ents)) A2 cc2 P d))
                        replace HP := Lib.hid (HP.out.step hbv)
                        replace HL := Lib.hid (HL.out.step hbv)
                        replace HRC := Lib.hid ((HRC.out.below hbv).mono hbv.size)
                        have RM := HM.out HN5.out
                        rw [show spSize 2 = 32 from rfl] at RM
                        have R4 := Lib.hid (fun W h (hl : Lies W W.heap.size (withEnts o (putIn x o.ents)) A2 P) => HF.out.right (withEnts o (putIn x o.ents)) A2 cc2 P d 2 W h hl (small_put HSM.out HXS.out hn5) HD.out)
                        rw [RM] at R4
                        generalize entOk 32 x = may at *
                        have z5 : (may != may) = false := by simp
                        change Code.wp _ _ _ _ (V2.alloc (.cells (objC (withEnts o (putIn x o.ents)) A2 cc2 P d) 25))
                        generalize hV3 : V2.alloc (.cells (objC (withEnts o (putIn x o.ents)) A2 cc2 P d) 25) = V3 at *
                        generalize V2.heap.size = g3 at *
                        clear hbv c0 c1 c2 c3 c4 c5 c6 c7 c8 c9 d0 d1 d2 RM
                        obtain ⟨c0, c1, c2, c3, c4, c5, c6, c7, c8, c9⟩ := HP.out.a.ten; obtain ⟨d0, d1, d2⟩ := HP.out.b.trio
                        obtain ⟨e0, e1, e2, e3, e4, e5, e6, e7, e8, e9⟩ := HB3.out.ten
                        go_upto_region 26 with (go_at_call 15; refine (R4.out _ (HF.out.under _ _ HK.out HP.out.below) ⟨HRC.out, HL.out.pars⟩).mono ?_; rintro r w6 ⟨rfl, hb6⟩; have HP := Lib.hid (HP.out.step hb6); have HL := Lib.hid (HL.out.step hb6); have HB3 := Lib.hid (HB3.out.step hb6); obtain ⟨c0, c1, c2, c3, c4, c5, c6, c7, c8, c9⟩ := HP.out.a.ten; obtain ⟨d0, d1, d2⟩ := HP.out.b.trio; obtain ⟨e0, e1, e2, e3, e4, e5, e6, e7, e8, e9⟩ := HB3.out.ten; have f3 := HB3.out.free 2; clear hb6)
                        clear R4 HRC HN5 HXS HM
                        by_cases hw0 : wh < 0
                        · go_wp2_with fail
                          go_ret
                          exact ⟨rfl, HP.out.below⟩
                        · by_cases hw1 : (o.ents.length : Int) ≤ wh
                          · go_wp2_with fail
                            go_ret
                            exact ⟨rfl, HP.out.below⟩
                          · obtain ⟨n, rfl⟩ : ∃ n : Nat, wh = n := ⟨wh.toNat, by omega⟩
                            have hn0 : n < o.ents.length := by omega
                            obtain ⟨A7, c7', A8, c8', hs1, hs2, hrt, hrd⟩ := ent_slices HL.out.ents hn0 hcap
                            have hT : (o.ents.take n).length = n := by rw [List.length_take]; omega
                            have hD : (o.ents.drop (n + 1)).length = o.ents.length - (n + 1) := by rw [List.length_drop]
                            have hw9 : IntKind.i64.wrap ((n : Int) + 1) = (n : Int) + 1 := IntWalk.i64_in _ (by omega)
                            have HRR := HE.out (o.ents.take n ++ o.ents.drop (n + 1)) (by rw [← List.eraseIdx_eq_take_drop_succ]; exact List.eraseIdx_sublist _ _)
                            have R6 := Lib.hid (fun A c W h (hl : Lies W W.heap.size (withEnts o (o.ents.take n ++ o.ents.drop (n + 1))) A P) => show Calls Tryz.prog 15 #[.agg (objC (withEnts o (o.ents.take n ++ o.ents.drop (n + 1))) A c P d), .int .i64 2] W fun e w' => e = .returned (.bool true) ∧ Below W.heap.size W w' from by
                              have := HF.out.right (withEnts o (o.ents.take n ++ o.ents.drop (n + 1))) A c P d 2 W h hl (right_small HRR) HD.out
                              rwa [HRR] at this)
                            obtain ⟨i9, E9⟩ := ent_elem
                            have HEL := Lib.hid E9
                            clear E9 HRR
                            go_wp2_with fail
                            refine wp_region_seq (fun W => W.cell? ⟨w.heap.size, 2, none⟩ = some (.slice A o.ents.length c)) [(1, false, 0), (2, false, 2), (3, false, 6), (4, false, 14), (6, false, 30), (7, false, 94), (8, false, 222), (9, false, 478), (10, false, 990), (0, true, 2014), (5, true, 2015), (11, true, 2047), (12, false, 4095), (13, true, 8191)]
                              14 (by kernel_rfl) (by kernel_rfl) (by kernel_rfl) (fun d _ _ _ _ h => by cases d <;> exact h) (by kernel_rfl) (by kernel_rfl) (by rw [World.cell?_drew]; exact c2) ?_
                            have hbd : Below w6.heap.size w6 w6.drew := (Below.refl _ _).drew
                            replace HP := Lib.hid (HP.out.step hbd)
                            replace HL := Lib.hid (HL.out.step hbd)
                            replace HB3 := Lib.hid (HB3.out.step hbd)
                            have HRT := Lib.hid ((hrt.below hbd).mono hbd.size)
                            have HRD := Lib.hid ((hrd.below hbd).mono hbd.size)
                            clear hbd hrt hrd c0 c1 c2 c3 c4 c5 c6 c7 c8 c9 d0 d1 d2 e0 e1 e2 e3 e4 e5 e6 e7 e8 e9
                            generalize w6.drew = W0 at *
                            have hr0 : Below W0.heap.size W0 W0 := Below.refl _ _
                            have HS9 := Lib.hid (fun (W : World) (hb : Below W0.heap.size W0 W) => (HP.out.step hb).a.ten.2.2.1)
                            refine seqH_take (.pointer (some ⟨w.heap.size, 2, none⟩)) rfl (Or.inl ⟨by rfl, fun W hW => by go_simp⟩) ?_
                            go_simp
                            refine seqH_take (.slice A o.ents.length c) rfl (Or.inl ⟨by rfl, fun W hW => by have hx := hW; clear hW; go_simp⟩) ?_
                            go_simp
                            refine seqH_take (.int .i64 n) rfl (Or.inl ⟨by rfl, fun W hW => by go_simp⟩) ?_
                            go_simp
                            refine seqH_take (.slice A7 n c7') rfl (Or.inl ⟨by rfl, fun W hW => by go_simp⟩) ?_
                            go_simp
                            refine seqH_take (.pointer (some ⟨w.heap.size, 2, none⟩)) rfl (Or.inl ⟨by rfl, fun W hW => by go_simp⟩) ?_
                            go_simp
                            refine seqH_take (.slice A o.ents.length c) rfl (Or.inl ⟨by rfl, fun W hW => by have hx := hW; clear hW; go_simp⟩) ?_
                            go_simp
                            refine seqH_take (.int .i64 n) rfl (Or.inl ⟨by rfl, fun W hW => by go_simp⟩) ?_
                            go_simp
                            refine seqH_take (.int .i64 ((n : Int) + 1)) rfl (Or.inl ⟨by rfl, fun W hW => by go_simp⟩) ?_
                            go_simp
                            refine seqH_take (.slice A8 (o.ents.length - (n + 1)) c8') rfl (Or.inl ⟨by rfl, fun W hW => by go_simp⟩) ?_
                            go_simp
                            refine seqH_call rfl (by rfl) (fun K hK => ?_)
                            have HKK := Lib.hid hK
                            clear hK
                            go_simp
                            have hb2 : Below W0.heap.size W0 (W0.alloc (.cells #[] 44)) := hr0.alloc hr0.size _
                            have ho3 : (W0.alloc (.cells #[] 44)).ownsRow W0.heap.size 44 3 (.slice (some ⟨W0.heap.size, 0, none⟩) 0 0) ([] : List Ent).length (([] : List Ent).flatMap entV) := ⟨rfl, .inr ⟨W0.heap.size, 0, #[], rfl, hr0.size, heap_alloc_new W0 _, Nat.le_refl _, Nat.zero_le _, rfl, rfl⟩⟩
                            refine HKK.out _ _ (HS9.out _ hb2) ?_
                            clear HKK K
                            generalize W0.alloc (.cells #[] 44) = y1 at *
                            go_simp
                            refine seqH_call rfl (by rfl) (fun K hK => ?_)
                            have HKK := Lib.hid hK
                            clear hK
                            obtain ⟨v6, y5, HR10, ho7, hg8, _⟩ := app_recs HEL.out entV_len entV_one y1 W0.heap.size (.slice (some ⟨W0.heap.size, 0, none⟩) 0 0) [] (o.ents.take n) A7 c7' _ 22 ho3 ((HRT.out.below hb2).mono hb2.size) (by simp) (by omega) hb2.size
                            have hb9 : Below W0.heap.size W0 y5 := hb2.grown hg8 hb2.size (fun i hi => (ho3.lt i hi).1)
                            obtain ⟨A11, c12, rfl⟩ := own_ents ho7
                            have HHR10 := Lib.hid HR10
                            simp only [List.nil_append, hT] at HHR10
                            clear HR10
                            unfold Oper.wp
                            simp [execOp, resolve, invoke, builtin, Act.eval, HHR10.out, Result.andThen, Oper.upon]
                            refine HKK.out _ _ (HS9.out _ hb9) ?_
                            clear HKK K
                            go_simp
                            have ho13 : y5.ownsRow W0.heap.size 44 3 (.slice A11 n c12) (o.ents.take n).length ((o.ents.take n).flatMap entV) := by have := ho7; simp only [List.nil_append, hT] at this ⊢; exact this
                            refine seqH_call rfl (by rfl) (fun K hK => ?_)
                            have HKK := Lib.hid hK
                            clear hK
                            obtain ⟨v20, y19, HR24, ho21, hg22, _⟩ := app_recs HEL.out entV_len entV_one y5 W0.heap.size (.slice A11 n c12) (o.ents.take n) (o.ents.drop (n + 1)) A8 c8' _ 22 ho13 ((HRD.out.below hb9).mono hb9.size) (by omega) (by omega) hb9.size
                            have hb23 : Below W0.heap.size W0 y19 := hb9.grown hg22 hb9.size (fun i hi => (ho13.lt i hi).1)
                            obtain ⟨A25, c26, rfl⟩ := own_ents ho21
                            have HHR24 := Lib.hid HR24
                            simp only [hD] at HHR24
                            clear HR24
                            unfold Oper.wp
                            simp [execOp, resolve, invoke, builtin, Act.eval, HHR24.out, Result.andThen, Oper.upon]
                            refine HKK.out _ _ (HS9.out _ hb23) ?_
                            clear HKK K
                            go_simp
                            refine seqH_take (.pointer (some ⟨g3, 2, none⟩)) rfl (Or.inl ⟨by rfl, fun W hW => by go_simp⟩) ?_
                            go_simp
                            have k2 := (HB3.out.step hb23).ten.2.2.1
                            have f2 := (HB3.out.step hb23).free 2
                            refine seqH_call rfl (by rfl) (fun K hK => ?_)
                            have HKK := Lib.hid hK
                            clear hK
                            go_simp
                            have hlen : min n o.ents.length + (o.ents.length - (n + 1)) = (o.ents.take n ++ o.ents.drop (n + 1)).length := by rw [List.length_append, List.length_take, List.length_drop]
                            rw [hlen]
                            have hsc : Below g3 y19 (y19.setCell ⟨g3, 2, none⟩ (.slice A25 (o.ents.take n ++ o.ents.drop (n + 1)).length c26)) := (Below.refl g3 y19).setCell (p := ⟨g3, 2, none⟩) (Nat.le_refl _) _
                            have ha9 : BoxAt (y19.setCell ⟨g3, 2, none⟩ (.slice A25 (o.ents.take n ++ o.ents.drop (n + 1)).length c26)) w.heap.size 25 (objC o A c P d) := (hsc.block _ (by omega)).trans (HP.out.step hb23).a
                            have hb9' : Below w.heap.size w (y19.setCell ⟨g3, 2, none⟩ (.slice A25 (o.ents.take n ++ o.ents.drop (n + 1)).length c26)) := (HP.out.step hb23).below.trans (hsc.mono (by omega))
                            have hbx9 : BoxAt (y19.setCell ⟨g3, 2, none⟩ (.slice A25 (o.ents.take n ++ o.ents.drop (n + 1)).length c26)) g3 25 (objC (withEnts o (o.ents.take n ++ o.ents.drop (n + 1))) A25 c26 P d) := Hg.heap_setCell_cells (HB3.out.step hb23) 2 (.slice A25 (o.ents.take n ++ o.ents.drop (n + 1)).length c26)
                            have how := own_set ho21 (p := ⟨g3, 2, none⟩) HB3.out.lt (.slice A25 (o.ents.take n ++ o.ents.drop (n + 1)).length c26)
                            obtain ⟨A30, c30, hv30, _, hrec30⟩ := recs_own entV_len (by omega) how
                            injection hv30 with hv1 hv2 hv3
                            subst hv1 hv3
                            refine HKK.out _ _ ha9.ten.2.2.1 ?_
                            clear HKK K hv2 how hsc k2 f2 hlen
                            refine seqH_done ?_
                            have HL9 := Lib.hid (show Lies (y19.setCell ⟨g3, 2, none⟩ (.slice A25 (o.ents.take n ++ o.ents.drop (n + 1)).length c26)) (y19.setCell ⟨g3, 2, none⟩ (.slice A25 (o.ents.take n ++ o.ents.drop (n + 1)).length c26)).heap.size (withEnts o (o.ents.take n ++ o.ents.drop (n + 1))) A25 P from ⟨hrec30, strs_mono (HB0.out.pars.below hb9') hb9'.size⟩)
                            have HB9 := Lib.hid hb9'
                            have HX9 := Lib.hid hbx9
                            clear hrec30 hb9' hbx9 ha9 ho21 ho13 ho7 ho3 hg22 hg8 hb23 hb9 hb2 hr0 hs1 hs2 hT hD
                            generalize (y19.setCell ⟨g3, 2, none⟩ (.slice A25 (o.ents.take n ++ o.ents.drop (n + 1)).length c26)) = W9 at *
                            obtain ⟨e0, e1, e2, e3, e4, e5, e6, e7, e8, e9⟩ := HX9.out.ten
                            go_wp2_with (go_at_call 15; refine (R6.out _ _ _ (HF.out.under _ _ HK.out HB9.out) HL9.out).mono ?_; rintro r w8 ⟨rfl, hb8⟩)
                            go_ret
                            exact ⟨rfl, HB9.out.trans (hb8.mono HB9.out.size)⟩
                  | false =>
                    have hls := hmid.last
                    obtain ⟨v1, y1, hrun1, ho1, hg1, _⟩ := app_recs HEL.out entV_len entV_one (wr.alloc (.cells #[.int .i64 x.mode, .string x.name, .string x.id] 44)) w5.heap.size _ (l) [x] (some ⟨wr.heap.size, 0, none⟩) 1 _ 22 (hown.alloc _) (one_ent wr x) (by first | omega | (simp; omega)) (by simp) (by have := hbl.size; simp; omega)
                    have hb1 : Below w5.heap.size w5 y1 := (hbl.alloc hbl.size _).grown hg1 (by have := hbl.size; simp; omega) (fun i hi => (hown.lt i hi).1)
                    obtain ⟨A1, c1', rfl⟩ := own_ents ho1
                    have HRUN1 := Lib.hid hrun1
                    try simp only [List.length_append, List.length_cons, List.length_nil, Nat.zero_add] at HRUN1
                    clear hrun1 hg1
                    rw [hls] at ho1
                    have HLS := Lib.hid (show l.length + 1 = (putIn x o.ents).length from by rw [← hls]; simp)
                    clear hmid hls
                    go_upto_region 18 with (at_builtin; refine wpList_append_run rfl (.tmp 92) (.tmp 94) 22 22 rfl _ _ _ y1 rfl rfl HRUN1.out ?_)
                    rw [HLS.out]
                    have HP := Lib.hid (HP.out.step hb1)
                    have HL := Lib.hid (HL.out.step hb1)
                    obtain ⟨A6, c6', hv6, _, hrec⟩ := recs_own entV_len (by omega) ho1
                    injection hv6 with hv1 hv2 hv3
                    subst hv1 hv3
                    have HRC := Lib.hid hrec
                    generalize y1 = V at *
                    clear hv2 hrec ho1 hb1 c0 c1 c2 c3 c4 c5 c6 c7 c8 c9 d0 d1 d2
                    obtain ⟨c0, c1, c2, c3, c4, c5, c6, c7, c8, c9⟩ := HP.out.a.ten; obtain ⟨d0, d1, d2⟩ := HP.out.b.trio
                    rcases HQ.out with rfl | rfl
                    · go_upto_region 21 with fail
                      have HE1 := Lib.hid (show entOk 20 x = (decide (1 ≤ x.mode) && decide (x.mode ≤ 3) && entryName (bl x.name) && decide (x.id.size = 20)) from rfl)
                      go_cut [13] (fun s13 wx => s13 = .bool (entOk 20 x) ∧ Below V.heap.size V wx)
                      case first =>
                        by_cases m1 : 1 ≤ x.mode
                        · by_cases m3 : x.mode ≤ 3
                          · have HN := Lib.hid (fun W h => HF.out.ent x.name W h (by have := HXS.out; omega))
                            cases hen : entryName (bl x.name) with
                            | true =>
                              rw [hen] at HN
                              by_cases hid : x.id.size = 20
                              · have z1 : ((x.id.size : Int) == 20) = true := by simp [hid]
                                go_wp2_with (go_at_call 20; refine (HN.out _ (HF.out.under _ _ HK.out HP.out.below)).mono ?_; rintro r w6 ⟨rfl, hb6⟩; obtain ⟨d0, d1, d2⟩ := (HP.out.step hb6).b.trio)
                                go_meet
                                exact ⟨by rw [HE1.out, decide_eq_true m1, decide_eq_true m3, hen, decide_eq_true hid] <;> rfl, hb6⟩
                              · have z1 : ((x.id.size : Int) == 20) = false := beq_eq_false_iff_ne.2 (by omega)
                                go_wp2_with (go_at_call 20; refine (HN.out _ (HF.out.under _ _ HK.out HP.out.below)).mono ?_; rintro r w6 ⟨rfl, hb6⟩; obtain ⟨d0, d1, d2⟩ := (HP.out.step hb6).b.trio)
                                go_meet
                                exact ⟨by rw [HE1.out, decide_eq_true m1, decide_eq_true m3, hen, decide_eq_false hid] <;> rfl, hb6⟩
                            | false =>
                              rw [hen] at HN
                              go_wp2_with (go_at_call 20; refine (HN.out _ (HF.out.under _ _ HK.out HP.out.below)).mono ?_; rintro r w6 ⟨rfl, hb6⟩; obtain ⟨d0, d1, d2⟩ := (HP.out.step hb6).b.trio)
                              go_meet
                              exact ⟨by rw [HE1.out, decide_eq_true m1, decide_eq_true m3, hen] <;> rfl, hb6⟩
                          · skip
                            go_wp2_with fail
                            go_meet
                            exact ⟨by rw [HE1.out, decide_eq_true m1, decide_eq_false (by omega)] <;> rfl, Below.refl _ _⟩
                        · skip
                          go_wp2_with fail
                          go_meet
                          exact ⟨by rw [HE1.out, decide_eq_false (by omega)] <;> rfl, Below.refl _ _⟩
                      case rest =>
                        obtain ⟨rfl, hbx⟩ := hcut
                        have HP := Lib.hid (HP.out.step hbx)
                        have HL := Lib.hid (HL.out.step hbx)
                        have HRC := Lib.hid ((HRC.out.below hbx).mono hbx.size)
                        generalize wc = V2 at *
                        clear hbx c0 c1 c2 c3 c4 c5 c6 c7 c8 c9 d0 d1 d2 HE1
                        obtain ⟨c0, c1, c2, c3, c4, c5, c6, c7, c8, c9⟩ := HP.out.a.ten; obtain ⟨d0, d1, d2⟩ := HP.out.b.trio
                        go_upto_region 24 with fail
                        have hg3 := HP.out.b.lt
                        have hbv := (Below.refl V2.heap.size V2).alloc (Nat.le_refl _) (.cells (objC (withEnts o (putIn x o.ents)) A1 c1' P d) 25)
                        have HB3 := Lib.hid (box_new V2 25 (objC (withEnts o (putIn x o.ents)) A1 c1' P d))
                        replace HP := Lib.hid (HP.out.step hbv)
                        replace HL := Lib.hid (HL.out.step hbv)
                        replace HRC := Lib.hid ((HRC.out.below hbv).mono hbv.size)
                        have RM := HM.out HN5.out
                        rw [show spSize 1 = 20 from rfl] at RM
                        have R4 := Lib.hid (fun W h (hl : Lies W W.heap.size (withEnts o (putIn x o.ents)) A1 P) => HF.out.right (withEnts o (putIn x o.ents)) A1 c1' P d 1 W h hl (small_put HSM.out HXS.out hn5) HD.out)
                        rw [RM] at R4
                        generalize entOk 20 x = may at *
                        have z5 : (may != may) = false := by simp
                        change Code.wp _ _ _ _ (V2.alloc (.cells (objC (withEnts o (putIn x o.ents)) A1 c1' P d) 25))
                        generalize hV3 : V2.alloc (.cells (objC (withEnts o (putIn x o.ents)) A1 c1' P d) 25) = V3 at *
                        generalize V2.heap.size = g3 at *
                        clear hbv c0 c1 c2 c3 c4 c5 c6 c7 c8 c9 d0 d1 d2 RM
                        obtain ⟨c0, c1, c2, c3, c4, c5, c6, c7, c8, c9⟩ := HP.out.a.ten; obtain ⟨d0, d1, d2⟩ := HP.out.b.trio
                        obtain ⟨e0, e1, e2, e3, e4, e5, e6, e7, e8, e9⟩ := HB3.out.ten
                        go_upto_region 26 with (go_at_call 15; refine (R4.out _ (HF.out.under _ _ HK.out HP.out.below) ⟨HRC.out, HL.out.pars⟩).mono ?_; rintro r w6 ⟨rfl, hb6⟩; have HP := Lib.hid (HP.out.step hb6); have HL := Lib.hid (HL.out.step hb6); have HB3 := Lib.hid (HB3.out.step hb6); obtain ⟨c0, c1, c2, c3, c4, c5, c6, c7, c8, c9⟩ := HP.out.a.ten; obtain ⟨d0, d1, d2⟩ := HP.out.b.trio; obtain ⟨e0, e1, e2, e3, e4, e5, e6, e7, e8, e9⟩ := HB3.out.ten; have f3 := HB3.out.free 2; clear hb6)
                        clear R4 HRC HN5 HXS HM
                        by_cases hw0 : wh < 0
                        · go_wp2_with fail
                          go_ret
                          exact ⟨rfl, HP.out.below⟩
                        · by_cases hw1 : (o.ents.length : Int) ≤ wh
                          · go_wp2_with fail
                            go_ret
                            exact ⟨rfl, HP.out.below⟩
                          · obtain ⟨n, rfl⟩ : ∃ n : Nat, wh = n := ⟨wh.toNat, by omega⟩
                            have hn0 : n < o.ents.length := by omega
                            obtain ⟨A7, c7', A8, c8', hs1, hs2, hrt, hrd⟩ := ent_slices HL.out.ents hn0 hcap
                            have hT : (o.ents.take n).length = n := by rw [List.length_take]; omega
                            have hD : (o.ents.drop (n + 1)).length = o.ents.length - (n + 1) := by rw [List.length_drop]
                            have hw9 : IntKind.i64.wrap ((n : Int) + 1) = (n : Int) + 1 := IntWalk.i64_in _ (by omega)
                            have HRR := HE.out (o.ents.take n ++ o.ents.drop (n + 1)) (by rw [← List.eraseIdx_eq_take_drop_succ]; exact List.eraseIdx_sublist _ _)
                            have R6 := Lib.hid (fun A c W h (hl : Lies W W.heap.size (withEnts o (o.ents.take n ++ o.ents.drop (n + 1))) A P) => show Calls Tryz.prog 15 #[.agg (objC (withEnts o (o.ents.take n ++ o.ents.drop (n + 1))) A c P d), .int .i64 1] W fun e w' => e = .returned (.bool true) ∧ Below W.heap.size W w' from by
                              have := HF.out.right (withEnts o (o.ents.take n ++ o.ents.drop (n + 1))) A c P d 1 W h hl (right_small HRR) HD.out
                              rwa [HRR] at this)
                            obtain ⟨i9, E9⟩ := ent_elem
                            have HEL := Lib.hid E9
                            clear E9 HRR
                            go_wp2_with fail
                            refine wp_region_seq (fun W => W.cell? ⟨w.heap.size, 2, none⟩ = some (.slice A o.ents.length c)) [(1, false, 0), (2, false, 2), (3, false, 6), (4, false, 14), (6, false, 30), (7, false, 94), (8, false, 222), (9, false, 478), (10, false, 990), (0, true, 2014), (5, true, 2015), (11, true, 2047), (12, false, 4095), (13, true, 8191)]
                              14 (by kernel_rfl) (by kernel_rfl) (by kernel_rfl) (fun d _ _ _ _ h => by cases d <;> exact h) (by kernel_rfl) (by kernel_rfl) (by rw [World.cell?_drew]; exact c2) ?_
                            have hbd : Below w6.heap.size w6 w6.drew := (Below.refl _ _).drew
                            replace HP := Lib.hid (HP.out.step hbd)
                            replace HL := Lib.hid (HL.out.step hbd)
                            replace HB3 := Lib.hid (HB3.out.step hbd)
                            have HRT := Lib.hid ((hrt.below hbd).mono hbd.size)
                            have HRD := Lib.hid ((hrd.below hbd).mono hbd.size)
                            clear hbd hrt hrd c0 c1 c2 c3 c4 c5 c6 c7 c8 c9 d0 d1 d2 e0 e1 e2 e3 e4 e5 e6 e7 e8 e9
                            generalize w6.drew = W0 at *
                            have hr0 : Below W0.heap.size W0 W0 := Below.refl _ _
                            have HS9 := Lib.hid (fun (W : World) (hb : Below W0.heap.size W0 W) => (HP.out.step hb).a.ten.2.2.1)
                            refine seqH_take (.pointer (some ⟨w.heap.size, 2, none⟩)) rfl (Or.inl ⟨by rfl, fun W hW => by go_simp⟩) ?_
                            go_simp
                            refine seqH_take (.slice A o.ents.length c) rfl (Or.inl ⟨by rfl, fun W hW => by have hx := hW; clear hW; go_simp⟩) ?_
                            go_simp
                            refine seqH_take (.int .i64 n) rfl (Or.inl ⟨by rfl, fun W hW => by go_simp⟩) ?_
                            go_simp
                            refine seqH_take (.slice A7 n c7') rfl (Or.inl ⟨by rfl, fun W hW => by go_simp⟩) ?_
                            go_simp
                            refine seqH_take (.pointer (some ⟨w.heap.size, 2, none⟩)) rfl (Or.inl ⟨by rfl, fun W hW => by go_simp⟩) ?_
                            go_simp
                            refine seqH_take (.slice A o.ents.length c) rfl (Or.inl ⟨by rfl, fun W hW => by have hx := hW; clear hW; go_simp⟩) ?_
                            go_simp
                            refine seqH_take (.int .i64 n) rfl (Or.inl ⟨by rfl, fun W hW => by go_simp⟩) ?_
                            go_simp
                            refine seqH_take (.int .i64 ((n : Int) + 1)) rfl (Or.inl ⟨by rfl, fun W hW => by go_simp⟩) ?_
                            go_simp
                            refine seqH_take (.slice A8 (o.ents.length - (n + 1)) c8') rfl (Or.inl ⟨by rfl, fun W hW => by go_simp⟩) ?_
                            go_simp
                            refine seqH_call rfl (by rfl) (fun K hK => ?_)
                            have HKK := Lib.hid hK
                            clear hK
                            go_simp
                            have hb2 : Below W0.heap.size W0 (W0.alloc (.cells #[] 44)) := hr0.alloc hr0.size _
                            have ho3 : (W0.alloc (.cells #[] 44)).ownsRow W0.heap.size 44 3 (.slice (some ⟨W0.heap.size, 0, none⟩) 0 0) ([] : List Ent).length (([] : List Ent).flatMap entV) := ⟨rfl, .inr ⟨W0.heap.size, 0, #[], rfl, hr0.size, heap_alloc_new W0 _, Nat.le_refl _, Nat.zero_le _, rfl, rfl⟩⟩
                            refine HKK.out _ _ (HS9.out _ hb2) ?_
                            clear HKK K
                            generalize W0.alloc (.cells #[] 44) = y1 at *
                            go_simp
                            refine seqH_call rfl (by rfl) (fun K hK => ?_)
                            have HKK := Lib.hid hK
                            clear hK
                            obtain ⟨v6, y5, HR10, ho7, hg8, _⟩ := app_recs HEL.out entV_len entV_one y1 W0.heap.size (.slice (some ⟨W0.heap.size, 0, none⟩) 0 0) [] (o.ents.take n) A7 c7' _ 22 ho3 ((HRT.out.below hb2).mono hb2.size) (by simp) (by omega) hb2.size
                            have hb9 : Below W0.heap.size W0 y5 := hb2.grown hg8 hb2.size (fun i hi => (ho3.lt i hi).1)
                            obtain ⟨A11, c12, rfl⟩ := own_ents ho7
                            have HHR10 := Lib.hid HR10
                            simp only [List.nil_append, hT] at HHR10
                            clear HR10
                            unfold Oper.wp
                            simp [execOp, resolve, invoke, builtin, Act.eval, HHR10.out, Result.andThen, Oper.upon]
                            refine HKK.out _ _ (HS9.out _ hb9) ?_
                            clear HKK K
                            go_simp
                            have ho13 : y5.ownsRow W0.heap.size 44 3 (.slice A11 n c12) (o.ents.take n).length ((o.ents.take n).flatMap entV) := by have := ho7; simp only [List.nil_append, hT] at this ⊢; exact this
                            refine seqH_call rfl (by rfl) (fun K hK => ?_)
                            have HKK := Lib.hid hK
                            clear hK
                            obtain ⟨v20, y19, HR24, ho21, hg22, _⟩ := app_recs HEL.out entV_len entV_one y5 W0.heap.size (.slice A11 n c12) (o.ents.take n) (o.ents.drop (n + 1)) A8 c8' _ 22 ho13 ((HRD.out.below hb9).mono hb9.size) (by omega) (by omega) hb9.size
                            have hb23 : Below W0.heap.size W0 y19 := hb9.grown hg22 hb9.size (fun i hi => (ho13.lt i hi).1)
                            obtain ⟨A25, c26, rfl⟩ := own_ents ho21
                            have HHR24 := Lib.hid HR24
                            simp only [hD] at HHR24
                            clear HR24
                            unfold Oper.wp
                            simp [execOp, resolve, invoke, builtin, Act.eval, HHR24.out, Result.andThen, Oper.upon]
                            refine HKK.out _ _ (HS9.out _ hb23) ?_
                            clear HKK K
                            go_simp
                            refine seqH_take (.pointer (some ⟨g3, 2, none⟩)) rfl (Or.inl ⟨by rfl, fun W hW => by go_simp⟩) ?_
                            go_simp
                            have k2 := (HB3.out.step hb23).ten.2.2.1
                            have f2 := (HB3.out.step hb23).free 2
                            refine seqH_call rfl (by rfl) (fun K hK => ?_)
                            have HKK := Lib.hid hK
                            clear hK
                            go_simp
                            have hlen : min n o.ents.length + (o.ents.length - (n + 1)) = (o.ents.take n ++ o.ents.drop (n + 1)).length := by rw [List.length_append, List.length_take, List.length_drop]
                            rw [hlen]
                            have hsc : Below g3 y19 (y19.setCell ⟨g3, 2, none⟩ (.slice A25 (o.ents.take n ++ o.ents.drop (n + 1)).length c26)) := (Below.refl g3 y19).setCell (p := ⟨g3, 2, none⟩) (Nat.le_refl _) _
                            have ha9 : BoxAt (y19.setCell ⟨g3, 2, none⟩ (.slice A25 (o.ents.take n ++ o.ents.drop (n + 1)).length c26)) w.heap.size 25 (objC o A c P d) := (hsc.block _ (by omega)).trans (HP.out.step hb23).a
                            have hb9' : Below w.heap.size w (y19.setCell ⟨g3, 2, none⟩ (.slice A25 (o.ents.take n ++ o.ents.drop (n + 1)).length c26)) := (HP.out.step hb23).below.trans (hsc.mono (by omega))
                            have hbx9 : BoxAt (y19.setCell ⟨g3, 2, none⟩ (.slice A25 (o.ents.take n ++ o.ents.drop (n + 1)).length c26)) g3 25 (objC (withEnts o (o.ents.take n ++ o.ents.drop (n + 1))) A25 c26 P d) := Hg.heap_setCell_cells (HB3.out.step hb23) 2 (.slice A25 (o.ents.take n ++ o.ents.drop (n + 1)).length c26)
                            have how := own_set ho21 (p := ⟨g3, 2, none⟩) HB3.out.lt (.slice A25 (o.ents.take n ++ o.ents.drop (n + 1)).length c26)
                            obtain ⟨A30, c30, hv30, _, hrec30⟩ := recs_own entV_len (by omega) how
                            injection hv30 with hv1 hv2 hv3
                            subst hv1 hv3
                            refine HKK.out _ _ ha9.ten.2.2.1 ?_
                            clear HKK K hv2 how hsc k2 f2 hlen
                            refine seqH_done ?_
                            have HL9 := Lib.hid (show Lies (y19.setCell ⟨g3, 2, none⟩ (.slice A25 (o.ents.take n ++ o.ents.drop (n + 1)).length c26)) (y19.setCell ⟨g3, 2, none⟩ (.slice A25 (o.ents.take n ++ o.ents.drop (n + 1)).length c26)).heap.size (withEnts o (o.ents.take n ++ o.ents.drop (n + 1))) A25 P from ⟨hrec30, strs_mono (HB0.out.pars.below hb9') hb9'.size⟩)
                            have HB9 := Lib.hid hb9'
                            have HX9 := Lib.hid hbx9
                            clear hrec30 hb9' hbx9 ha9 ho21 ho13 ho7 ho3 hg22 hg8 hb23 hb9 hb2 hr0 hs1 hs2 hT hD
                            generalize (y19.setCell ⟨g3, 2, none⟩ (.slice A25 (o.ents.take n ++ o.ents.drop (n + 1)).length c26)) = W9 at *
                            obtain ⟨e0, e1, e2, e3, e4, e5, e6, e7, e8, e9⟩ := HX9.out.ten
                            go_wp2_with (go_at_call 15; refine (R6.out _ _ _ (HF.out.under _ _ HK.out HB9.out) HL9.out).mono ?_; rintro r w8 ⟨rfl, hb8⟩)
                            go_ret
                            exact ⟨rfl, HB9.out.trans (hb8.mono HB9.out.size)⟩
                    · go_upto_region 21 with fail
                      have HE1 := Lib.hid (show entOk 32 x = (decide (1 ≤ x.mode) && decide (x.mode ≤ 3) && entryName (bl x.name) && decide (x.id.size = 32)) from rfl)
                      go_cut [13] (fun s13 wx => s13 = .bool (entOk 32 x) ∧ Below V.heap.size V wx)
                      case first =>
                        by_cases m1 : 1 ≤ x.mode
                        · by_cases m3 : x.mode ≤ 3
                          · have HN := Lib.hid (fun W h => HF.out.ent x.name W h (by have := HXS.out; omega))
                            cases hen : entryName (bl x.name) with
                            | true =>
                              rw [hen] at HN
                              by_cases hid : x.id.size = 32
                              · have z1 : ((x.id.size : Int) == 32) = true := by simp [hid]
                                go_wp2_with (go_at_call 20; refine (HN.out _ (HF.out.under _ _ HK.out HP.out.below)).mono ?_; rintro r w6 ⟨rfl, hb6⟩; obtain ⟨d0, d1, d2⟩ := (HP.out.step hb6).b.trio)
                                go_meet
                                exact ⟨by rw [HE1.out, decide_eq_true m1, decide_eq_true m3, hen, decide_eq_true hid] <;> rfl, hb6⟩
                              · have z1 : ((x.id.size : Int) == 32) = false := beq_eq_false_iff_ne.2 (by omega)
                                go_wp2_with (go_at_call 20; refine (HN.out _ (HF.out.under _ _ HK.out HP.out.below)).mono ?_; rintro r w6 ⟨rfl, hb6⟩; obtain ⟨d0, d1, d2⟩ := (HP.out.step hb6).b.trio)
                                go_meet
                                exact ⟨by rw [HE1.out, decide_eq_true m1, decide_eq_true m3, hen, decide_eq_false hid] <;> rfl, hb6⟩
                            | false =>
                              rw [hen] at HN
                              go_wp2_with (go_at_call 20; refine (HN.out _ (HF.out.under _ _ HK.out HP.out.below)).mono ?_; rintro r w6 ⟨rfl, hb6⟩; obtain ⟨d0, d1, d2⟩ := (HP.out.step hb6).b.trio)
                              go_meet
                              exact ⟨by rw [HE1.out, decide_eq_true m1, decide_eq_true m3, hen] <;> rfl, hb6⟩
                          · skip
                            go_wp2_with fail
                            go_meet
                            exact ⟨by rw [HE1.out, decide_eq_true m1, decide_eq_false (by omega)] <;> rfl, Below.refl _ _⟩
                        · skip
                          go_wp2_with fail
                          go_meet
                          exact ⟨by rw [HE1.out, decide_eq_false (by omega)] <;> rfl, Below.refl _ _⟩
                      case rest =>
                        obtain ⟨rfl, hbx⟩ := hcut
                        have HP := Lib.hid (HP.out.step hbx)
                        have HL := Lib.hid (HL.out.step hbx)
                        have HRC := Lib.hid ((HRC.out.below hbx).mono hbx.size)
                        generalize wc = V2 at *
                        clear hbx c0 c1 c2 c3 c4 c5 c6 c7 c8 c9 d0 d1 d2 HE1
                        obtain ⟨c0, c1, c2, c3, c4, c5, c6, c7, c8, c9⟩ := HP.out.a.ten; obtain ⟨d0, d1, d2⟩ := HP.out.b.trio
                        go_upto_region 24 with fail
                        have hg3 := HP.out.b.lt
                        have hbv := (Below.refl V2.heap.size V2).alloc (Nat.le_refl _) (.cells (objC (withEnts o (putIn x o.ents)) A1 c1' P d) 25)
                        have HB3 := Lib.hid (box_new V2 25 (objC (withEnts o (putIn x o.ents)) A1 c1' P d))
                        replace HP := Lib.hid (HP.out.step hbv)
                        replace HL := Lib.hid (HL.out.step hbv)
                        replace HRC := Lib.hid ((HRC.out.below hbv).mono hbv.size)
                        have RM := HM.out HN5.out
                        rw [show spSize 2 = 32 from rfl] at RM
                        have R4 := Lib.hid (fun W h (hl : Lies W W.heap.size (withEnts o (putIn x o.ents)) A1 P) => HF.out.right (withEnts o (putIn x o.ents)) A1 c1' P d 2 W h hl (small_put HSM.out HXS.out hn5) HD.out)
                        rw [RM] at R4
                        generalize entOk 32 x = may at *
                        have z5 : (may != may) = false := by simp
                        change Code.wp _ _ _ _ (V2.alloc (.cells (objC (withEnts o (putIn x o.ents)) A1 c1' P d) 25))
                        generalize hV3 : V2.alloc (.cells (objC (withEnts o (putIn x o.ents)) A1 c1' P d) 25) = V3 at *
                        generalize V2.heap.size = g3 at *
                        clear hbv c0 c1 c2 c3 c4 c5 c6 c7 c8 c9 d0 d1 d2 RM
                        obtain ⟨c0, c1, c2, c3, c4, c5, c6, c7, c8, c9⟩ := HP.out.a.ten; obtain ⟨d0, d1, d2⟩ := HP.out.b.trio
                        obtain ⟨e0, e1, e2, e3, e4, e5, e6, e7, e8, e9⟩ := HB3.out.ten
                        go_upto_region 26 with (go_at_call 15; refine (R4.out _ (HF.out.under _ _ HK.out HP.out.below) ⟨HRC.out, HL.out.pars⟩).mono ?_; rintro r w6 ⟨rfl, hb6⟩; have HP := Lib.hid (HP.out.step hb6); have HL := Lib.hid (HL.out.step hb6); have HB3 := Lib.hid (HB3.out.step hb6); obtain ⟨c0, c1, c2, c3, c4, c5, c6, c7, c8, c9⟩ := HP.out.a.ten; obtain ⟨d0, d1, d2⟩ := HP.out.b.trio; obtain ⟨e0, e1, e2, e3, e4, e5, e6, e7, e8, e9⟩ := HB3.out.ten; have f3 := HB3.out.free 2; clear hb6)
                        clear R4 HRC HN5 HXS HM
                        by_cases hw0 : wh < 0
                        · go_wp2_with fail
                          go_ret
                          exact ⟨rfl, HP.out.below⟩
                        · by_cases hw1 : (o.ents.length : Int) ≤ wh
                          · go_wp2_with fail
                            go_ret
                            exact ⟨rfl, HP.out.below⟩
                          · obtain ⟨n, rfl⟩ : ∃ n : Nat, wh = n := ⟨wh.toNat, by omega⟩
                            have hn0 : n < o.ents.length := by omega
                            obtain ⟨A7, c7', A8, c8', hs1, hs2, hrt, hrd⟩ := ent_slices HL.out.ents hn0 hcap
                            have hT : (o.ents.take n).length = n := by rw [List.length_take]; omega
                            have hD : (o.ents.drop (n + 1)).length = o.ents.length - (n + 1) := by rw [List.length_drop]
                            have hw9 : IntKind.i64.wrap ((n : Int) + 1) = (n : Int) + 1 := IntWalk.i64_in _ (by omega)
                            have HRR := HE.out (o.ents.take n ++ o.ents.drop (n + 1)) (by rw [← List.eraseIdx_eq_take_drop_succ]; exact List.eraseIdx_sublist _ _)
                            have R6 := Lib.hid (fun A c W h (hl : Lies W W.heap.size (withEnts o (o.ents.take n ++ o.ents.drop (n + 1))) A P) => show Calls Tryz.prog 15 #[.agg (objC (withEnts o (o.ents.take n ++ o.ents.drop (n + 1))) A c P d), .int .i64 2] W fun e w' => e = .returned (.bool true) ∧ Below W.heap.size W w' from by
                              have := HF.out.right (withEnts o (o.ents.take n ++ o.ents.drop (n + 1))) A c P d 2 W h hl (right_small HRR) HD.out
                              rwa [HRR] at this)
                            obtain ⟨i9, E9⟩ := ent_elem
                            have HEL := Lib.hid E9
                            clear E9 HRR
                            go_wp2_with fail
                            refine wp_region_seq (fun W => W.cell? ⟨w.heap.size, 2, none⟩ = some (.slice A o.ents.length c)) [(1, false, 0), (2, false, 2), (3, false, 6), (4, false, 14), (6, false, 30), (7, false, 94), (8, false, 222), (9, false, 478), (10, false, 990), (0, true, 2014), (5, true, 2015), (11, true, 2047), (12, false, 4095), (13, true, 8191)]
                              14 (by kernel_rfl) (by kernel_rfl) (by kernel_rfl) (fun d _ _ _ _ h => by cases d <;> exact h) (by kernel_rfl) (by kernel_rfl) (by rw [World.cell?_drew]; exact c2) ?_
                            have hbd : Below w6.heap.size w6 w6.drew := (Below.refl _ _).drew
                            replace HP := Lib.hid (HP.out.step hbd)
                            replace HL := Lib.hid (HL.out.step hbd)
                            replace HB3 := Lib.hid (HB3.out.step hbd)
                            have HRT := Lib.hid ((hrt.below hbd).mono hbd.size)
                            have HRD := Lib.hid ((hrd.below hbd).mono hbd.size)
                            clear hbd hrt hrd c0 c1 c2 c3 c4 c5 c6 c7 c8 c9 d0 d1 d2 e0 e1 e2 e3 e4 e5 e6 e7 e8 e9
                            generalize w6.drew = W0 at *
                            have hr0 : Below W0.heap.size W0 W0 := Below.refl _ _
                            have HS9 := Lib.hid (fun (W : World) (hb : Below W0.heap.size W0 W) => (HP.out.step hb).a.ten.2.2.1)
                            refine seqH_take (.pointer (some ⟨w.heap.size, 2, none⟩)) rfl (Or.inl ⟨by rfl, fun W hW => by go_simp⟩) ?_
                            go_simp
                            refine seqH_take (.slice A o.ents.length c) rfl (Or.inl ⟨by rfl, fun W hW => by have hx := hW; clear hW; go_simp⟩) ?_
                            go_simp
                            refine seqH_take (.int .i64 n) rfl (Or.inl ⟨by rfl, fun W hW => by go_simp⟩) ?_
                            go_simp
                            refine seqH_take (.slice A7 n c7') rfl (Or.inl ⟨by rfl, fun W hW => by go_simp⟩) ?_
                            go_simp
                            refine seqH_take (.pointer (some ⟨w.heap.size, 2, none⟩)) rfl (Or.inl ⟨by rfl, fun W hW => by go_simp⟩) ?_
                            go_simp
                            refine seqH_take (.slice A o.ents.length c) rfl (Or.inl ⟨by rfl, fun W hW => by have hx := hW; clear hW; go_simp⟩) ?_
                            go_simp
                            refine seqH_take (.int .i64 n) rfl (Or.inl ⟨by rfl, fun W hW => by go_simp⟩) ?_
                            go_simp
                            refine seqH_take (.int .i64 ((n : Int) + 1)) rfl (Or.inl ⟨by rfl, fun W hW => by go_simp⟩) ?_
                            go_simp
                            refine seqH_take (.slice A8 (o.ents.length - (n + 1)) c8') rfl (Or.inl ⟨by rfl, fun W hW => by go_simp⟩) ?_
                            go_simp
                            refine seqH_call rfl (by rfl) (fun K hK => ?_)
                            have HKK := Lib.hid hK
                            clear hK
                            go_simp
                            have hb2 : Below W0.heap.size W0 (W0.alloc (.cells #[] 44)) := hr0.alloc hr0.size _
                            have ho3 : (W0.alloc (.cells #[] 44)).ownsRow W0.heap.size 44 3 (.slice (some ⟨W0.heap.size, 0, none⟩) 0 0) ([] : List Ent).length (([] : List Ent).flatMap entV) := ⟨rfl, .inr ⟨W0.heap.size, 0, #[], rfl, hr0.size, heap_alloc_new W0 _, Nat.le_refl _, Nat.zero_le _, rfl, rfl⟩⟩
                            refine HKK.out _ _ (HS9.out _ hb2) ?_
                            clear HKK K
                            generalize W0.alloc (.cells #[] 44) = y1 at *
                            go_simp
                            refine seqH_call rfl (by rfl) (fun K hK => ?_)
                            have HKK := Lib.hid hK
                            clear hK
                            obtain ⟨v6, y5, HR10, ho7, hg8, _⟩ := app_recs HEL.out entV_len entV_one y1 W0.heap.size (.slice (some ⟨W0.heap.size, 0, none⟩) 0 0) [] (o.ents.take n) A7 c7' _ 22 ho3 ((HRT.out.below hb2).mono hb2.size) (by simp) (by omega) hb2.size
                            have hb9 : Below W0.heap.size W0 y5 := hb2.grown hg8 hb2.size (fun i hi => (ho3.lt i hi).1)
                            obtain ⟨A11, c12, rfl⟩ := own_ents ho7
                            have HHR10 := Lib.hid HR10
                            simp only [List.nil_append, hT] at HHR10
                            clear HR10
                            unfold Oper.wp
                            simp [execOp, resolve, invoke, builtin, Act.eval, HHR10.out, Result.andThen, Oper.upon]
                            refine HKK.out _ _ (HS9.out _ hb9) ?_
                            clear HKK K
                            go_simp
                            have ho13 : y5.ownsRow W0.heap.size 44 3 (.slice A11 n c12) (o.ents.take n).length ((o.ents.take n).flatMap entV) := by have := ho7; simp only [List.nil_append, hT] at this ⊢; exact this
                            refine seqH_call rfl (by rfl) (fun K hK => ?_)
                            have HKK := Lib.hid hK
                            clear hK
                            obtain ⟨v20, y19, HR24, ho21, hg22, _⟩ := app_recs HEL.out entV_len entV_one y5 W0.heap.size (.slice A11 n c12) (o.ents.take n) (o.ents.drop (n + 1)) A8 c8' _ 22 ho13 ((HRD.out.below hb9).mono hb9.size) (by omega) (by omega) hb9.size
                            have hb23 : Below W0.heap.size W0 y19 := hb9.grown hg22 hb9.size (fun i hi => (ho13.lt i hi).1)
                            obtain ⟨A25, c26, rfl⟩ := own_ents ho21
                            have HHR24 := Lib.hid HR24
                            simp only [hD] at HHR24
                            clear HR24
                            unfold Oper.wp
                            simp [execOp, resolve, invoke, builtin, Act.eval, HHR24.out, Result.andThen, Oper.upon]
                            refine HKK.out _ _ (HS9.out _ hb23) ?_
                            clear HKK K
                            go_simp
                            refine seqH_take (.pointer (some ⟨g3, 2, none⟩)) rfl (Or.inl ⟨by rfl, fun W hW => by go_simp⟩) ?_
                            go_simp
                            have k2 := (HB3.out.step hb23).ten.2.2.1
                            have f2 := (HB3.out.step hb23).free 2
                            refine seqH_call rfl (by rfl) (fun K hK => ?_)
                            have HKK := Lib.hid hK
                            clear hK
                            go_simp
                            have hlen : min n o.ents.length + (o.ents.length - (n + 1)) = (o.ents.take n ++ o.ents.drop (n + 1)).length := by rw [List.length_append, List.length_take, List.length_drop]
                            rw [hlen]
                            have hsc : Below g3 y19 (y19.setCell ⟨g3, 2, none⟩ (.slice A25 (o.ents.take n ++ o.ents.drop (n + 1)).length c26)) := (Below.refl g3 y19).setCell (p := ⟨g3, 2, none⟩) (Nat.le_refl _) _
                            have ha9 : BoxAt (y19.setCell ⟨g3, 2, none⟩ (.slice A25 (o.ents.take n ++ o.ents.drop (n + 1)).length c26)) w.heap.size 25 (objC o A c P d) := (hsc.block _ (by omega)).trans (HP.out.step hb23).a
                            have hb9' : Below w.heap.size w (y19.setCell ⟨g3, 2, none⟩ (.slice A25 (o.ents.take n ++ o.ents.drop (n + 1)).length c26)) := (HP.out.step hb23).below.trans (hsc.mono (by omega))
                            have hbx9 : BoxAt (y19.setCell ⟨g3, 2, none⟩ (.slice A25 (o.ents.take n ++ o.ents.drop (n + 1)).length c26)) g3 25 (objC (withEnts o (o.ents.take n ++ o.ents.drop (n + 1))) A25 c26 P d) := Hg.heap_setCell_cells (HB3.out.step hb23) 2 (.slice A25 (o.ents.take n ++ o.ents.drop (n + 1)).length c26)
                            have how := own_set ho21 (p := ⟨g3, 2, none⟩) HB3.out.lt (.slice A25 (o.ents.take n ++ o.ents.drop (n + 1)).length c26)
                            obtain ⟨A30, c30, hv30, _, hrec30⟩ := recs_own entV_len (by omega) how
                            injection hv30 with hv1 hv2 hv3
                            subst hv1 hv3
                            refine HKK.out _ _ ha9.ten.2.2.1 ?_
                            clear HKK K hv2 how hsc k2 f2 hlen
                            refine seqH_done ?_
                            have HL9 := Lib.hid (show Lies (y19.setCell ⟨g3, 2, none⟩ (.slice A25 (o.ents.take n ++ o.ents.drop (n + 1)).length c26)) (y19.setCell ⟨g3, 2, none⟩ (.slice A25 (o.ents.take n ++ o.ents.drop (n + 1)).length c26)).heap.size (withEnts o (o.ents.take n ++ o.ents.drop (n + 1))) A25 P from ⟨hrec30, strs_mono (HB0.out.pars.below hb9') hb9'.size⟩)
                            have HB9 := Lib.hid hb9'
                            have HX9 := Lib.hid hbx9
                            clear hrec30 hb9' hbx9 ha9 ho21 ho13 ho7 ho3 hg22 hg8 hb23 hb9 hb2 hr0 hs1 hs2 hT hD
                            generalize (y19.setCell ⟨g3, 2, none⟩ (.slice A25 (o.ents.take n ++ o.ents.drop (n + 1)).length c26)) = W9 at *
                            obtain ⟨e0, e1, e2, e3, e4, e5, e6, e7, e8, e9⟩ := HX9.out.ten
                            go_wp2_with (go_at_call 15; refine (R6.out _ _ _ (HF.out.under _ _ HK.out HB9.out) HL9.out).mono ?_; rintro r w8 ⟨rfl, hb8⟩)
                            go_ret
                            exact ⟨rfl, HB9.out.trans (hb8.mono HB9.out.size)⟩
        · have q2 : (o.kind != 2) = true := by simp [hk2]
          clear hs HR hx1 hx2 htot hk2
          go_enter Tryz.func7, Tryz.ntmps7
          go_wp2_with (first | (go_at_call 8; refine (HA.out _ (HF.out.under _ _ HK.out HP.out.below)).mono ?_; rintro r w5 ⟨rfl, hb5⟩; have HP := Lib.hid (HP.out.step hb5); have HL := Lib.hid (HL.out.step hb5); obtain ⟨c0, c1, c2, c3, c4, c5, c6, c7, c8, c9⟩ := HP.out.a.ten; obtain ⟨d0, d1, d2⟩ := HP.out.b.trio; clear hb5) | (go_at_call 9; refine (HW.out _ HL.out).mono ?_; rintro r w5 ⟨rfl, hb5⟩; have HP := Lib.hid (HP.out.step hb5); have HL := Lib.hid (HL.out.step hb5); obtain ⟨c0, c1, c2, c3, c4, c5, c6, c7, c8, c9⟩ := HP.out.a.ten; obtain ⟨d0, d1, d2⟩ := HP.out.b.trio; clear hb5))
          go_ret
          exact ⟨rfl, HP.out.below⟩
end Go.Proofs.YtapjgdhdgpakhaaGreatDoor.Hj
