/-
  Layer 12: edges as the document has them (EdgesTell): what the law holds, the function that it hands to Map.
-/
import Derived.Test.YtlpidedijknohaaJp
import Derived.Test.YtlpidedijknohaaJn
import Derived.Test.YtlpidedijknohaaHeld
import Derived.Test.YtlpidedijknohaaSt
namespace Go.Proofs.Ytlpidedijknohaa.Hq
open Go.RowKit Ob Hr Hj Eg Hw
set_option linter.unusedVariables false

theorem run_two (a b a' b' : Value) (p q : Bool) (w : World) (fs : List Field) (hl : fs.length = 2)
    (h0 : ((fs[0]?).map fun f => f.type == 9 && f.offset == 0 && f.name != "_") = some true) (h1 : ((fs[1]?).map fun f => f.type == 3 && f.offset == 1 && f.name != "_") = some true)
    (pa : ∀ x y : Value, (part 9 #[x, y] 0).run Try.prog w = .ok x w) (pb : ∀ x y : Value, (part 3 #[x, y] 1).run Try.prog w = .ok y w)
    (ea : (Op.equalIn 9999 9 a a').run Try.prog w = .ok p w) (eb : (Op.equalIn 9999 3 b b').run Try.prog w = .ok q w) :
    (Op.eqFields 9999 #[a, b] #[a', b'] fs).run Try.prog w = .ok (p && q) w := by
  obtain ⟨f, g, rfl⟩ := (by match fs, hl with | [f, g], _ => exact ⟨f, g, rfl⟩ : ∃ f g, fs = [f, g])
  simp only [List.getElem?_cons_zero, List.getElem?_cons_succ, Option.map_some, Option.some.injEq, Bool.and_eq_true, beq_iff_eq, bne_iff_ne] at h0 h1
  obtain ⟨⟨f1, f2⟩, f3⟩ := h0
  obtain ⟨⟨g1, g2⟩, g3⟩ := h1
  rw [← f1] at pa ea
  rw [← f2] at pa
  rw [← g1] at pb eb
  rw [← g2] at pb
  cases p <;> cases q <;> simp [Op.eqFields, f3, g3, Sem.run_bind, pa, pb, ea, eb]
theorem neq_ed (x : ByteArray) (k : Int) (w : World) : (binOp .neq 35 (.agg #[.string x, .int .i64 k]) (.agg #[.string x, .int .i64 k])).run Try.prog w = .ok (.bool false) w := by
  have h : (Op.equalIn 10000 35 (.agg #[.string x, .int .i64 k]) (.agg #[.string x, .int .i64 k])).run Try.prog w = .ok true w := by
    rw [run_equalIn_agg w 9999 35 _ _ (by kernel_rfl) (by kernel_rfl)]
    have e1 := run_equalIn_string (P := Try.prog) w 9998 9 x x Try.underlying9
    have e2 := run_equalIn_int (P := Try.prog) w 9998 3 .i64 .i64 k k Try.underlying3
    simp only [beq_self_eq_true] at e1 e2
    exact run_two _ _ _ _ true true w _ (by kernel_rfl) (by kernel_rfl) (by kernel_rfl) (fun x y => by simp [part, Try.isAgg9]) (fun x y => by simp [part, Try.isAgg3]) e1 e2
  rw [run_neq_struct, h]; rfl
/-- what the law holds: its arguments in boxes, the document's edges in one, the program's -/
structure TL (w W : World) (o : Thing) (A : Option Addr) (c : Nat) (P : Option Addr) (d : Nat) (stop : Int) (gm n : Nat) (Am : Option Addr) (cm : Nat) (Ae : Option Addr) (Q : List Edg) : Prop where
  ob : BoxAt W w.heap.size 25 (objC o A c P d)
  sb : BoxAt W (w.heap.size + 1) 3 #[.int .i64 stop]
  mb : BoxAt W gm 30 #[.slice Am n cm]
  lies : Lies W w.heap.size o A P
  hm : Recs 2 edV W W.heap.size Am Q
  hl : Recs 2 edV W W.heap.size Ae Q
  below : Below w.heap.size w W
section
variable {w W W' : World} {o : Thing} {A : Option Addr} {c : Nat} {P : Option Addr} {d : Nat} {stop : Int} {gm n : Nat} {Am : Option Addr} {cm : Nat} {Ae : Option Addr} {Q : List Edg}
theorem TL.step (h : TL w W o A c P d stop gm n Am cm Ae Q) (hb : Below W.heap.size W W') : TL w W' o A c P d stop gm n Am cm Ae Q :=
  ⟨h.ob.step hb, h.sb.step hb, h.mb.step hb, h.lies.below (hb.mono h.below.size), (h.hm.below hb).mono hb.size, (h.hl.below hb).mono hb.size, h.below.trans (hb.mono h.below.size)⟩
theorem TL.all (h : TL w W o A c P d stop gm n Am cm Ae Q) : Lies W W.heap.size o A P := h.lies.mono h.below.size
end
theorem edge_cells {W : World} {B : Nat} {A : Option Addr} {Q : List Edg} {i : Nat} (h : Recs 2 edV W B A Q) (hi : i < Q.length) : ∃ ad, A = some ad ∧ W.cell? (ad.add (i * 2)) = some (.string (Q.getD i default).1) ∧ W.cell? ⟨(ad.add (i * 2)).block, (ad.add (i * 2)).off + 1, none⟩ = some (.int .i64 (Q.getD i default).2) := by
  obtain ⟨ad, e, hB, hc⟩ := h i hi
  refine ⟨ad, e, ?_, hc 1 (by omega)⟩
  have := hc 0 (by omega)
  rwa [show (ad.add (i * 2)).add 0 = ad.add (i * 2) from rfl] at this

set_option maxHeartbeats 4000000 in
set_option maxRecDepth 100000 in
/-- the function that the law hands to Map, at its i-th call -/
theorem tellFn {w V W : World} {o : Thing} {A : Option Addr} {c : Nat} {P : Option Addr} {d : Nat} {stop : Int} {gm n : Nat} {Am : Option Addr} {cm : Nat} {Ae : Option Addr} {Q : List Edg} {go : Nat} {Ao : Option Addr} {co : Nat} {OL : List ByteArray} (i : Nat)
    (ht : TL w V o A c P d stop gm n Am cm Ae Q) (hgo : BoxAt V go 23 #[.slice Ao n co]) (hso : Strs V V.heap.size Ao OL) (hbl : Below V.heap.size V W) (ha : BoxAt W V.heap.size 3 #[.int .i64 i]) (hi : i < n) (hQ : Q.length = n) (hO : OL.length = n) (hn : n ≤ 100000) :
    Calls Try.prog 14 #[.agg #[.string (Q.getD i default).1, .int .i64 (Q.getD i default).2], .pointer (some ⟨V.heap.size, 0, none⟩), .pointer (some ⟨gm, 0, none⟩), .pointer (some ⟨w.heap.size + 1, 0, none⟩), .pointer (some ⟨go, 0, none⟩)] W fun e W' =>
      e = .returned (.tuple #[.string (if (i : Int) = stop then ⟨#[]⟩ else OL.getD i ByteArray.empty), .int .i64 (if (i : Int) = stop then 6 else 0)]) ∧ (Below V.heap.size V W' ∧ BoxAt W' V.heap.size 3 #[.int .i64 ((i : Int) + 1)]) ∧ Above (V.heap.size + 1) W W' := by
  obtain ⟨ad, e, k1, k2⟩ := edge_cells ht.hm (i := i) (by omega)
  obtain ⟨al, el, hBl, k3⟩ := hso i (by omega)
  have hVW := ha.lt
  have m0 := ht.mb.cell 0
  have s0 := ht.sb.cell 0
  have g0 := hgo.cell 0
  generalize (Q.getD i default).1 = x at *
  generalize (Q.getD i default).2 = kd at *
  generalize OL.getD i ByteArray.empty = y at *
  have hba : Below W.heap.size W (W.alloc (.cells #[.string x, .int .i64 kd] 36 (0, 0))) := (Below.refl _ W).alloc (Nat.le_refl _) _
  have hbx := box_new W 36 #[.string x, .int .i64 kd]
  have ha1 := ha.step hba
  have hb2 : Below V.heap.size (W.alloc (.cells #[.string x, .int .i64 kd] 36 (0, 0))) ((W.alloc (.cells #[.string x, .int .i64 kd] 36 (0, 0))).setCell ⟨V.heap.size, 0, none⟩ (.int .i64 ((i : Int) + 1))) := (Below.refl _ _).setCell (p := ⟨V.heap.size, 0, none⟩) (Nat.le_refl _) _
  have HX := Lib.hid (show Below V.heap.size V ((W.alloc (.cells #[.string x, .int .i64 kd] 36 (0, 0))).setCell ⟨V.heap.size, 0, none⟩ (.int .i64 ((i : Int) + 1))) ∧ BoxAt ((W.alloc (.cells #[.string x, .int .i64 kd] 36 (0, 0))).setCell ⟨V.heap.size, 0, none⟩ (.int .i64 ((i : Int) + 1))) V.heap.size 3 #[.int .i64 ((i : Int) + 1)] ∧ Above (V.heap.size + 1) W ((W.alloc (.cells #[.string x, .int .i64 kd] 36 (0, 0))).setCell ⟨V.heap.size, 0, none⟩ (.int .i64 ((i : Int) + 1))) from ⟨(hbl.trans (hba.mono (Nat.le_of_lt hVW))).trans hb2, Hg.heap_setCell_cells ha1 0 _, ⟨by simp [World.setCell], fun g h1 h2 => (Below.heap_setCell _ _ _ _ (show g ≠ V.heap.size by omega)).trans (hba.block g h2)⟩⟩)
  have a0 := ha1.cell 0
  have af := ha1.free 0
  have hw1 : IntKind.i64.wrap ((i : Int) + 1) = (i : Int) + 1 := IntWalk.i64_in _ (by omega)
  have hw2 : IntKind.i64.wrap (i : Int) = (i : Int) := IntWalk.i64_in _ (by omega)
  have HBX := Lib.hid (show BoxAt ((W.alloc (.cells #[.string x, .int .i64 kd] 36 (0, 0))).setCell ⟨V.heap.size, 0, none⟩ (.int .i64 ((i : Int) + 1))) W.heap.size 36 #[.string x, .int .i64 kd] from (Below.heap_setCell _ ⟨V.heap.size, 0, none⟩ _ W.heap.size (show W.heap.size ≠ V.heap.size by omega)).trans hbx)
  have HC := Lib.hid (show ∀ p v, V.cell? p = some v → ((W.alloc (.cells #[.string x, .int .i64 kd] 36 (0, 0))).setCell ⟨V.heap.size, 0, none⟩ (.int .i64 ((i : Int) + 1))).cell? p = some v from fun p v h => (HX.out.1.cell (World.block_lt_of_cell? _ _ h)).trans h)
  have HN := Lib.hid (fun W => neq_ed x kd W)
  have h0 : (0 : Int) ≤ i := by omega
  have hin : (i : Int) < n := by omega
  have hge : ¬ (n : Int) ≤ i := by omega
  subst e el
  clear hba hbx ha1 hb2 hbl ha ht hgo hso hVW hQ hO
  go_enter Try.func14, Try.ntmps14
  go_upto_region 2 with fail
  generalize (W.alloc (.cells #[.string x, .int .i64 kd] 36 (0, 0))).setCell ⟨V.heap.size, 0, none⟩ (.int .i64 ((i : Int) + 1)) = W2 at *
  replace k1 := HC.out _ _ k1
  replace k2 := HC.out _ _ k2
  replace k3 := HC.out _ _ k3
  replace m0 := HC.out _ _ m0
  replace s0 := HC.out _ _ s0
  replace g0 := HC.out _ _ g0
  have b0 := HBX.out.cell 0
  have b1 := HBX.out.cell 1
  have a1 := HX.out.2.1.cell 0
  have hq := HN.out
  clear a0 af
  refine wp_region_still_lit (by kernel_rfl) (by kernel_rfl) ?_
  change wpStill _ _ (World.drew _) (fun a' => Exit.then _ _ _ a' (World.drew _)) _ _
  iterate 14 ((with_reducible refine wpStill_step ?_); intro K hK; go_simp; refine hK _ ?_; clear hK K)
  refine wpStill_nil ?_
  by_cases hst : (i : Int) = stop
  · have HST := Lib.hid hst
    have hs2 : ((i : Int) == stop) = true := beq_iff_eq.2 hst
    clear hst
    go_wp2
    go_ret2
    have hb := HX.out.2.1
    rw [HST.out] at hb
    refine ⟨?_, ⟨HX.out.1.drew, hb⟩, ⟨HX.out.2.2.size, HX.out.2.2.block⟩⟩
    first | rfl | (rw [if_pos HST.out, if_pos HST.out]; rfl) | (rw [if_pos rfl, if_pos rfl]; rfl)
  · have HST := Lib.hid hst
    have hs2 : ((i : Int) == stop) = false := beq_eq_false_iff_ne.2 hst
    clear hst
    go_wp2
    go_ret2
    refine ⟨?_, ⟨HX.out.1.drew, HX.out.2.1⟩, ⟨HX.out.2.2.size, HX.out.2.2.block⟩⟩
    first | rfl | (rw [if_neg HST.out, if_neg HST.out]; rfl)
end Go.Proofs.Ytlpidedijknohaa.Hq
