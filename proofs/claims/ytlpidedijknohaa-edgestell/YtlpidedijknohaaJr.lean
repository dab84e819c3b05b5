/-
  Layer 12: an object's edges, its names, and it with other names, as the document has them (EdgesTell): the law's walk.
-/
import Derived.Test.YtlpidedijknohaaJq
import Derived.Test.YtlpidedijknohaaFork
import Derived.Test.YtlpidedijknohaaJo
namespace Go.Proofs.Ytlpidedijknohaa.Hq
open Go.RowKit Ob Hr Hj Eg Hw
set_option linter.unusedVariables false

/-- the law's arguments in their boxes -/
structure BT (w W : World) (o : Thing) (A : Option Addr) (c : Nat) (P : Option Addr) (d : Nat) (stop : Int) : Prop where
  ob : BoxAt W w.heap.size 25 (objC o A c P d)
  sb : BoxAt W (w.heap.size + 1) 3 #[.int .i64 stop]
  lies : Lies W w.heap.size o A P
  below : Below w.heap.size w W
section
variable {w W W' : World} {o : Thing} {A : Option Addr} {c : Nat} {P : Option Addr} {d : Nat} {stop : Int}
theorem BT.step (h : BT w W o A c P d stop) (hb : Below W.heap.size W W') : BT w W' o A c P d stop := ⟨h.ob.step hb, h.sb.step hb, h.lies.below (hb.mono h.below.size), h.below.trans (hb.mono h.below.size)⟩
theorem BT.all (h : BT w W o A c P d stop) : Lies W W.heap.size o A P := h.lies.mono h.below.size
theorem bt_new (hl : Lies w w.heap.size o A P) : BT w ((w.alloc (.cells (objC o A c P d) 25 (0, 0))).alloc (.cells #[.int .i64 stop] 3 (0, 0))) o A c P d stop :=
  have h := two_new w 25 3 (objC o A c P d) #[.int .i64 stop]
  ⟨h.a, h.b, hl.below h.below, h.below⟩
theorem not_box {g t : Nat} {p : Addr} {u : ByteArray} (h : BoxAt W g t #[.slice none 0 0]) (hp : p.block = g) (hc : W.cell? p = some (.string u)) : False := by
  obtain ⟨b, off, s⟩ := p
  simp only at hp
  subst hp
  have h' : W.heap[b]? = some (.cells #[.slice none 0 0] t (0, 0)) := h
  cases s with
  | some s => simp [World.cell?, h'] at hc
  | none =>
    simp only [World.cell?, h', Option.isSome_none, Bool.false_eq_true, if_false] at hc
    cases off with
    | zero => cases hc
    | succ off => simp at hc
theorem tl_start {gm n cm : Nat} {Am Ae : Option Addr} {Q : List Edg} (h : BT w W o A c P d stop) (hx : BoxAt W gm 30 #[.slice none 0 0]) (hg : w.heap.size + 2 ≤ gm) (hm : Recs 2 edV W W.heap.size Am Q) (hl : Recs 2 edV W W.heap.size Ae Q) :
    TL w (W.setCell ⟨gm, 0, none⟩ (.slice Am n cm)) o A c P d stop gm n Am cm Ae Q := by
  have hk : ∀ g, g ≠ gm → (W.setCell ⟨gm, 0, none⟩ (.slice Am n cm)).heap[g]? = W.heap[g]? := fun g hg => Below.heap_setCell _ _ _ _ hg
  have hb : Below w.heap.size W (W.setCell ⟨gm, 0, none⟩ (.slice Am n cm)) := (Below.refl _ W).setCell (p := ⟨gm, 0, none⟩) (by show w.heap.size ≤ gm; omega) _
  have hsz : (W.setCell ⟨gm, 0, none⟩ (.slice Am n cm)).heap.size = W.heap.size := by simp [World.setCell]
  refine ⟨(hk _ (by omega)).trans h.ob, (hk _ (by omega)).trans h.sb, Hg.heap_setCell_cells hx 0 _, h.lies.below hb, fun i hi => ?_, fun i hi => ?_, h.below.trans hb⟩
  · obtain ⟨ad, e, hlt, hc⟩ := hm i hi
    exact ⟨ad, e, by rw [hsz]; exact hlt, fun j hj => by rw [World.cell?_of_block (hk _ (by rw [block_of_add, block_of_add]; exact fun hg2 => not_box hx (by rw [block_of_add, block_of_add]; exact hg2) (hc 0 (by omega))))]; exact hc j hj⟩
  · obtain ⟨ad, e, hlt, hc⟩ := hl i hi
    exact ⟨ad, e, by rw [hsz]; exact hlt, fun j hj => by rw [World.cell?_of_block (hk _ (by rw [block_of_add, block_of_add]; exact fun hg2 => not_box hx (by rw [block_of_add, block_of_add]; exact hg2) (hc 0 (by omega))))]; exact hc j hj⟩
end
theorem conv_one {t : UInt8} {b : Nat} {W : World} (h : BoxAt W b 5 #[.int .u8 t.toNat]) : (convert 37 9 (.slice (some ⟨b, 0, none⟩) 1 1)).run Try.prog W = .ok (.string ⟨#[t]⟩) W :=
  Hg.Own.str (B := 0) (l := [t]) ⟨rfl, .inr ⟨b, 1, #[.int .u8 t.toNat], rfl, Nat.zero_le _, h, Nat.le_refl _, by unfold maxLen; omega, rfl, rfl⟩⟩
theorem own_set1 {W : World} {g : Nat} {e : TypeId} {k n : Nat} {v u : Value} {xs : List Value} (h : W.ownsRow (g + 1) e k v n xs) : (W.setCell ⟨g, 0, none⟩ u).ownsRow (g + 1) e k v n xs :=
  ⟨h.1, h.2.imp (fun h0 => h0) fun ⟨g', cap, cur, hv, hb, hg, hr⟩ => ⟨g', cap, cur, hv, hb, (Below.heap_setCell _ _ _ _ (by show g' ≠ g; omega)).trans hg, hr⟩⟩
theorem texts_self {W : World} {B : Nat} {A A' : Option Addr} {c c' : Nat} {l : List ByteArray} (h : Strs W B A l) (h' : Strs W B A' l) (hl : l.length ≤ 1000000) (hB : B ≤ W.heap.size) :
    Calls Try.prog 10 #[.slice A l.length c, .slice A' l.length c'] W fun e w' => e = .returned (.bool true) ∧ Below W.heap.size W w' := by
  have h9 := texts_any W B A A' c c' l l h h' hl hB
  have e : textsSame l l = true := by unfold textsSame; simp
  rwa [e] at h9

theorem own_le {W : World} {base n c : Nat} {e : TypeId} {k : Nat} {A : Option Addr} {xs : List Value} (ho : W.ownsRow base e k (.slice A n c) n xs) : n ≤ c := by
  rcases ho.2 with ⟨e, h0⟩ | ⟨g, cap, cur, e, _, _, h2, _⟩
  · omega
  · injection e with _ _ e3; omega
theorem tellOk {w V : World} {o : Thing} {A : Option Addr} {c : Nat} {P : Option Addr} {d : Nat} {stop : Int} {gm n : Nat} {Am : Option Addr} {cm : Nat} {Ae : Option Addr} {Q : List Edg} {go : Nat} {Ao : Option Addr} {co : Nat} {OL : List ByteArray}
    (ht : TL w V o A c P d stop gm n Am cm Ae Q) (hgo : BoxAt V go 23 #[.slice Ao n co]) (hso : Strs V V.heap.size Ao OL) (hQ : Q.length = n) (hO : OL.length = n) (hn : n ≤ 100000) (hQE : edgesF o = Q) :
    FnOk (V.heap.size + 1) (edgesF o) (fun i => if (i : Int) = stop then ⟨#[]⟩ else OL.getD i ByteArray.empty) (fun i => if (i : Int) = stop then 6 else 0) 14 #[.pointer (some ⟨V.heap.size, 0, none⟩), .pointer (some ⟨gm, 0, none⟩), .pointer (some ⟨w.heap.size + 1, 0, none⟩), .pointer (some ⟨go, 0, none⟩)] (fun i W => Below V.heap.size V W ∧ BoxAt W V.heap.size 3 #[.int .i64 i]) where
  enters := enters_of Try.func14 (by kernel_rfl) rfl
  under := fun i W W' h hb => ⟨h.1.trans (hb.mono (by omega)), (hb.block _ (by omega)).trans h.2⟩
  call := fun i W h hB hi => by
    rw [hQE] at hi ⊢
    exact (tellFn i ht hgo hso h.1 h.2 (by omega) hQ hO hn).mono fun e W' ⟨h1, h2, h3⟩ => ⟨h1, ⟨h2.1, by have := h2.2; rwa [show ((i : Int) + 1) = ((i + 1 : Nat) : Int) by omega] at this⟩, h3⟩
/-- Map, asked by the law: up to the one at which it stops -/
theorem mapStop {w V : World} {o : Thing} {A : Option Addr} {c : Nat} {P : Option Addr} {d : Nat} {stop : Int} {gm n : Nat} {Am : Option Addr} {cm : Nat} {Ae : Option Addr} {Q : List Edg} {go : Nat} {Ao : Option Addr} {co : Nat} {OL : List ByteArray}
    (ht : TL w V o A c P d stop gm n Am cm Ae Q) (hgo : BoxAt V go 23 #[.slice Ao n co]) (hso : Strs V V.heap.size Ao OL) (hQ : Q.length = n) (hO : OL.length = n) (hn : n ≤ 100000) (hQE : edgesF o = Q) (he : o.ents.length ≤ 10000) (hp : o.parents.length ≤ 10000) (h0 : 0 ≤ stop) (h1 : stop < n) :
    Calls Try.prog 13 #[.agg (objC o A c P d), .func (.func 14) #[] #[.pointer (some ⟨V.heap.size, 0, none⟩), .pointer (some ⟨gm, 0, none⟩), .pointer (some ⟨w.heap.size + 1, 0, none⟩), .pointer (some ⟨go, 0, none⟩)]] (V.alloc (.cells #[.int .i64 0] 3 (0, 0)))
      fun e w' => e = .returned (.tuple #[.agg #[.int .i64 0, .string ⟨#[]⟩, .slice none 0 0, .string ⟨#[]⟩, .slice none 0 0, .string ⟨#[]⟩, .int .i64 0, .string ⟨#[]⟩, .string ⟨#[]⟩, .int .i64 0], .int .i64 6]) ∧ Below V.heap.size V w' ∧ BoxAt w' V.heap.size 3 #[.int .i64 (stop + 1)] := by
  have hba : Below V.heap.size V (V.alloc (.cells #[.int .i64 0] 3 (0, 0))) := (Below.refl _ V).alloc (Nat.le_refl _) _
  have hsz : (V.alloc (.cells #[.int .i64 0] 3 (0, 0))).heap.size = V.heap.size + 1 := by simp
  have F := tellOk ht hgo hso hQ hO hn hQE
  rw [← hsz] at F
  obtain ⟨j, rfl⟩ : ∃ j : Nat, stop = j := ⟨stop.toNat, by omega⟩
  have hel : (edgesF o).length = n := by rw [hQE]; exact hQ
  refine (pMap_any _ o A c P d _ _ _ _ _ F ⟨hba, box_new V 3 #[.int .i64 0]⟩ ((ht.step hba).all) he hp j (by omega) (fun i hi => if_neg (by omega)) (fun _ => by simp)).mono ?_
  rintro e w' ⟨_, _, h2⟩
  obtain ⟨h3, h4, h5⟩ := h2 (by omega)
  simp only at h3
  exact ⟨h3, h4, h5⟩
theorem mapThrough {w V : World} {o : Thing} {A : Option Addr} {c : Nat} {P : Option Addr} {d : Nat} {stop : Int} {gm n : Nat} {Am : Option Addr} {cm : Nat} {Ae : Option Addr} {Q : List Edg} {go : Nat} {Ao : Option Addr} {co : Nat} {OL : List ByteArray}
    (ht : TL w V o A c P d stop gm n Am cm Ae Q) (hgo : BoxAt V go 23 #[.slice Ao n co]) (hso : Strs V V.heap.size Ao OL) (hQ : Q.length = n) (hO : OL.length = n) (hn : n ≤ 100000) (hQE : edgesF o = Q) (he : o.ents.length ≤ 10000) (hp : o.parents.length ≤ 10000) (h1 : stop < 0 ∨ (n : Int) ≤ stop) :
    Calls Try.prog 13 #[.agg (objC o A c P d), .func (.func 14) #[] #[.pointer (some ⟨V.heap.size, 0, none⟩), .pointer (some ⟨gm, 0, none⟩), .pointer (some ⟨w.heap.size + 1, 0, none⟩), .pointer (some ⟨go, 0, none⟩)]] (V.alloc (.cells #[.int .i64 0] 3 (0, 0)))
      fun e w' => ∃ A' c' P' d', e = .returned (.tuple #[.agg (objC (withF o OL) A' c' P' d'), .int .i64 0]) ∧ Lies w' w'.heap.size (withF o OL) A' P' ∧ Below V.heap.size V w' ∧ BoxAt w' V.heap.size 3 #[.int .i64 n] := by
  have hba : Below V.heap.size V (V.alloc (.cells #[.int .i64 0] 3 (0, 0))) := (Below.refl _ V).alloc (Nat.le_refl _) _
  have hsz : (V.alloc (.cells #[.int .i64 0] 3 (0, 0))).heap.size = V.heap.size + 1 := by simp
  have F := tellOk ht hgo hso hQ hO hn hQE
  rw [← hsz] at F
  have hel : (edgesF o).length = n := by rw [hQE]; exact hQ
  have hne : ∀ i : Nat, i < n → ¬ (i : Int) = stop := fun i hi => by omega
  refine (pMap_any _ o A c P d _ _ _ _ _ F ⟨hba, box_new V 3 #[.int .i64 0]⟩ ((ht.step hba).all) he hp n (by omega) (fun i hi => if_neg (hne i hi)) (fun h => absurd h (by omega))).mono ?_
  rintro e w' ⟨_, h2, _⟩
  obtain ⟨A', c', P', d', M, U, h3, h4, h5, h6, _, h7, h8⟩ := h2 hel.symm
  have hli : (List.range (edgesF o).length).map (fun i : Nat => if (i : Int) = stop then (⟨#[]⟩ : ByteArray) else OL.getD i ByteArray.empty) = OL := by
    apply List.ext_getElem?
    intro i
    by_cases hi : i < n
    · have hi2 : i < (edgesF o).length := by omega
      have hi3 : i < OL.length := by omega
      have hn := hne i hi
      simp [hi2, hi3, hn, List.getD]
    · rw [List.getElem?_eq_none (by simp; omega), List.getElem?_eq_none (by omega)]
  rw [hli] at h3 h5 h6
  rw [hel] at h4
  exact ⟨A', c', P', d', h3, ⟨h5.recs.mono (by omega), strs_mono (strs_of_recs h6.recs) (by omega)⟩, h4.1, h4.2⟩

end Go.Proofs.Ytlpidedijknohaa.Hq
