/-
  Layer 11, the program's side: a tree's entries, as far as they go.
-/
import Derived.Test.YtapjgdhdgpakhaaGreatDoorR2
import Derived.BigRegion
namespace Go.Proofs.YtapjgdhdgpakhaaGreatDoor.Hj
open Go.RowKit Ob Hr
set_option linter.unusedVariables false

theorem treeL_step {size f : Nat} {l : List UInt8} (h : l ≠ []) : treeL size (f + 1) l = ⟨modeOf (cutN 32 l).1, str (cutN 0 (cutN 32 l).2).1, str ((cutN 0 (cutN 32 l).2).2.take size)⟩ :: treeL size f ((cutN 0 (cutN 32 l).2).2.drop size) := by
  rw [treeL, if_neg h]
theorem BoxAt.tri {w : World} {g t : Nat} {m : Int} {a b : ByteArray} (h : BoxAt w g t #[.int .i64 m, .string a, .string b]) : w.cell? ⟨g, 0, none⟩ = some (.int .i64 m) ∧ w.cell? ⟨g, 1, none⟩ = some (.string a) ∧ w.cell? ⟨g, 2, none⟩ = some (.string b) := ⟨h.cell 0, h.cell 1, h.cell 2⟩
theorem Rest.put {w : World} {g : Nat} {l : List UInt8} (h : Rest w g l) (s : ByteArray) : Rest (w.setCell ⟨g, 0, none⟩ (.string s)) g (bl s) := by
  have := Hg.heap_setCell_cells h 0 (.string s)
  rw [Rest, str_bl]; exact this

set_option maxHeartbeats 8000000 in
set_option maxRecDepth 100000 in
theorem rentries_any (s : ByteArray) (size : Nat) (w : World) (hs : s.size ≤ 65536) (hz : size ≤ 32) :
    Calls Tryz.prog 66 #[.string s, .int .i64 size] w fun e w' => ∃ A c, e = .returned (.slice A (treeL size (s.size + 1) (bl s)).length c) ∧ w'.ownsRow w.heap.size 44 3 (.slice A (treeL size (s.size + 1) (bl s)).length c) (treeL size (s.size + 1) (bl s)).length ((treeL size (s.size + 1) (bl s)).flatMap entV) ∧ Below w.heap.size w w' := by
  have hmf : ∀ (fn : Fn) (first cap : Array Value) (w : World), (Instr.makeFunc fn first cap).run Tryz.prog w = .ok (.func fn first cap) w := fun _ _ _ _ => rfl
  obtain ⟨i0, E⟩ := rent_elem
  have HEL := Lib.hid E
  have HTL := Lib.hid (show treeL size (s.size + 1) (bl s) = treeL size (s.size + 1) (bl s) from rfl)
  have HRS := Lib.hid (show Rest (w.alloc (.cells #[.string s] 9 (0, 0))) w.heap.size (bl s) from by rw [Rest, str_bl]; exact box_new w 9 #[.string s])
  have hlen : (treeL size (s.size + 1) (bl s)).length ≤ (bl s).length := (treeL_size size _ _).1
  rw [bl_length] at hlen
  generalize hT : treeL size (s.size + 1) (bl s) = T at *
  have HTT := Lib.hid hT
  clear E hT HTL
  go_enter Tryz.func66, Tryz.ntmps66
  go_wp2_with fail
  go_loopg [5] s.size (fun g v wr => ∃ (f : Nat) (acc : List Ent) (rest : List UInt8) (A : Option Addr) (c : Nat), rest.length < f ∧ g = rest.length ∧ rest.length ≤ s.size ∧ v = .slice A acc.length c ∧ Rest wr w.heap.size rest ∧ wr.ownsRow (w.heap.size + 1) 44 3 (.slice A acc.length c) acc.length (acc.flatMap entV) ∧ Below w.heap.size w wr ∧ T = acc ++ treeL size f rest)
  case atStart => exact ⟨s.size + 1, [], bl s, none, 0, by rw [bl_length]; omega, by rw [bl_length], by rw [bl_length]; omega, rfl, HRS.out, World.ownsRow_nil _ _ _ _, (Below.refl _ w).alloc (Nat.le_refl _) _, by rw [← HTT.out]; rfl⟩
  case round =>
    obtain ⟨f, acc, rest, A, c, hf, rfl, hrl, rfl, hr, hown, hbw, hT⟩ := hrel
    have HX := Lib.hid (And.intro hr (And.intro hown (And.intro hbw hT)))
    have c0 := hr.cell 0
    clear hr hown hbw hT
    by_cases hne : rest = []
    · subst hne
      have hem : (str []).toList.isEmpty = true := by rw [toList_bl]; rfl
      have HQ := Lib.hid (show T = acc from by have := HX.out.2.2.2; obtain ⟨f', rfl⟩ : ∃ f', f = f' + 1 := ⟨f - 1, by simp at hf; omega⟩; rw [this, treeL, if_pos rfl, List.append_nil])
      go_wp2
      go_ret
      exact ⟨A, c, by rw [HQ.out]; rfl, by rw [HQ.out]; exact ⟨HX.out.2.1.1, HX.out.2.1.2.imp id fun ⟨g', cap, cur, h1, h2, h3⟩ => ⟨g', cap, cur, h1, by omega, h3⟩⟩, HX.out.2.2.1⟩
    · obtain ⟨f', rfl⟩ : ∃ f', f = f' + 1 := ⟨f - 1, by omega⟩
      have hem : (str rest).toList.isEmpty = false := by rw [toList_bl, bl_str]; cases rest <;> simp_all
      have h1 := cutN_size 32 rest
      have h2 := cutN_size 0 (cutN 32 rest).2
      have h3 := h1.2.2 hne
      have HTS := Lib.hid (show T = acc ++ (⟨modeOf (cutN 32 rest).1, str (cutN 0 (cutN 32 rest).2).1, str ((cutN 0 (cutN 32 rest).2).2.take size)⟩ :: treeL size f' ((cutN 0 (cutN 32 rest).2).2.drop size)) from by rw [HX.out.2.2.2, treeL_step hne])
      have HC1 := Lib.hid (rtake_any wr w.heap.size 32 rest HX.out.1 (by omega))
      have HC2 := Lib.hid (fun W (h : Rest W w.heap.size (cutN 32 rest).2) => rtake_any W w.heap.size 0 (cutN 32 rest).2 h (by omega))
      have HM := Lib.hid (fun W => pmodeOf_any (str (cutN 32 rest).1) W)
      rw [bl_str] at HM
      have hl3 : (cutN 0 (cutN 32 rest).2).2.length < rest.length := by omega
      clear h1 h2 h3 hne
      generalize (cutN 0 (cutN 32 rest).2).1 = nm at *
      generalize (cutN 0 (cutN 32 rest).2).2 = q at *
      generalize modeOf (cutN 32 rest).1 = md at *
      generalize str (cutN 32 rest).1 = mw at *
      generalize (cutN 32 rest).2 = r2 at *
      have hml : T.length = acc.length + (1 + (treeL size f' (q.drop size)).length) := by rw [HTS.out, List.length_append, List.length_cons]; omega
      have hacc : acc.length ≤ 65536 := by omega
      clear hml
      go_upto_region 5 with (first
        | (go_at_call 88; first
            | (with_reducible refine HC1.out.mono ?_; rintro r w2 ⟨rfl, hr2, hb2⟩; have HX := Lib.hid (show Rest w2 w.heap.size r2 ∧ w2.ownsRow (w.heap.size + 1) 44 3 (.slice A acc.length c) acc.length (acc.flatMap entV) ∧ Below w.heap.size w w2 from ⟨hr2, own_but HX.out.2.1 hb2 (by omega), HX.out.2.2.1.trans (hb2.below (Nat.le_refl _) HX.out.2.2.1.size)⟩); clear hr2 hb2)
            | (with_reducible refine (HC2.out _ HX.out.1).mono ?_; rintro r w3 ⟨rfl, hr3, hb3⟩; have HY := Lib.hid (show Rest w3 w.heap.size q ∧ w3.ownsRow (w.heap.size + 1) 44 3 (.slice A acc.length c) acc.length (acc.flatMap entV) ∧ Below w.heap.size w w3 from ⟨hr3, own_but HX.out.2.1 hb3 (by omega), HX.out.2.2.trans (hb3.below (Nat.le_refl _) HX.out.2.2.size)⟩); clear hr3 hb3))
        | (go_at_call 89; refine (HM.out _).mono ?_; rintro r w4 ⟨rfl, rfl⟩))
      have HOL := Lib.hid HY.out.2.1.lt
      have HB := Lib.hid (box_new w3 44 #[.int .i64 md, .string (str nm), .string ⟨#[]⟩])
      have ha : Below w3.heap.size w3 (w3.alloc (.cells #[.int .i64 md, .string (str nm), .string ⟨#[]⟩] 44 (0, 0))) := (Below.refl _ w3).alloc (Nat.le_refl _) _
      have HY := Lib.hid (And.intro (HY.out.1.step ha) (And.intro (HY.out.2.1.alloc (.cells #[.int .i64 md, .string (str nm), .string ⟨#[]⟩] 44 (0, 0))) (And.intro (HY.out.2.2.trans (ha.mono HY.out.2.2.size)) HY.out.1.lt)))
      clear ha
      generalize w3.alloc (.cells #[.int .i64 md, .string (str nm), .string ⟨#[]⟩] 44 (0, 0)) = W3 at *
      generalize w3.heap.size = gx at *
      obtain ⟨sq, hsq⟩ : ∃ sq, str q = sq := ⟨_, rfl⟩
      have hql : sq.size = q.length := by rw [← hsq, str_size]
      have hbq : bl sq = q := by rw [← hsq, bl_str]
      have HZ := Lib.hid (show BoxAt W3 w.heap.size 9 #[.string sq] from hsq ▸ HY.out.1)
      clear hsq
      have c0 := HZ.out.cell 0
      go_upto_region 6 with fail
      obtain ⟨m, hm⟩ : ∃ m : Nat, min (size : Int) (q.length : Int) = m := ⟨min size q.length, by omega⟩
      have hmn : m = min size q.length := by omega
      have HMN := Lib.hid hmn
      rw [hm]
      have m0 : (0 : Int) ≤ m := by omega
      have m1 : (m : Int) ≤ q.length := by omega
      have m2 : m ≤ q.length := by omega
      clear hm hmn
      have f0 := HB.out.free 2
      have k2 := HB.out.cell 2
      have f1 := HZ.out.free 0
      have hgn : gx ≠ w.heap.size := (Nat.ne_of_gt HY.out.2.2.2)
      clear c0
      have k0 : W3.cell? ⟨w.heap.size, 0, none⟩ = some (.string sq) := HZ.out.cell 0
      go_region
      have hs1 := But.set W3 gx 2 (.string (sq.extract 0 m))
      have HB2 := Hg.heap_setCell_cells HB.out 2 (.string (sq.extract 0 m))
      have HZ2 : BoxAt (W3.setCell ⟨gx, 2, none⟩ (.string (sq.extract 0 m))) w.heap.size 9 #[.string sq] := HZ.out.but hs1 (Ne.symm hgn)
      have hs2 := But.set (W3.setCell ⟨gx, 2, none⟩ (.string (sq.extract 0 m))) w.heap.size 0 (.string (sq.extract m q.length))
      have HZ3 := Hg.heap_setCell_cells HZ2 0 (.string (sq.extract m q.length))
      have HB3 : BoxAt ((W3.setCell ⟨gx, 2, none⟩ (.string (sq.extract 0 m))).setCell ⟨w.heap.size, 0, none⟩ (.string (sq.extract m q.length))) gx 44 #[.int .i64 md, .string (str nm), .string (sq.extract 0 m)] := BoxAt.but HB2 hs2 hgn
      have ho1 : (W3.setCell ⟨gx, 2, none⟩ (.string (sq.extract 0 m))).ownsRow (w.heap.size + 1) 44 3 (.slice A acc.length c) acc.length (acc.flatMap entV) := ⟨HY.out.2.1.1, HY.out.2.1.2.imp id fun ⟨g', cap, cur, h1, h2, h3, h4⟩ => ⟨g', cap, cur, h1, h2, (hs1.block g' (Array.getElem?_eq_some_iff.1 h3).1 (fun e => by have := (HOL.out g' (by rw [h1]; rfl)).2; omega)).trans h3, h4⟩⟩
      have ho2 := own_but ho1 hs2 (by omega)
      have hbe : Below w.heap.size w ((W3.setCell ⟨gx, 2, none⟩ (.string (sq.extract 0 m))).setCell ⟨w.heap.size, 0, none⟩ (.string (sq.extract m q.length))) := (HY.out.2.2.1.trans (hs1.below (Nat.le_of_lt HY.out.2.2.2) HY.out.2.2.1.size)).trans (hs2.below (Nat.le_refl _) (Nat.le_trans HY.out.2.2.1.size hs1.size))
      have hdr : Below ((W3.setCell ⟨gx, 2, none⟩ (.string (sq.extract 0 m))).setCell ⟨w.heap.size, 0, none⟩ (.string (sq.extract m q.length))).heap.size _ ((W3.setCell ⟨gx, 2, none⟩ (.string (sq.extract 0 m))).setCell ⟨w.heap.size, 0, none⟩ (.string (sq.extract m q.length))).drew := (Below.refl _ _).drew
      have HB := Lib.hid (HB3.step hdr)
      have HZ := Lib.hid (show Rest _ w.heap.size (bl (sq.extract m q.length)) from (show Rest _ w.heap.size (bl (sq.extract m q.length)) from (str_bl (sq.extract m q.length)).symm ▸ HZ3).step hdr)
      have HY := Lib.hid (And.intro (own_below ho2 hdr) (hbe.trans (hdr.mono hbe.size)))
      have hex1 : sq.extract 0 m = str (q.take size) := by rw [ext_take, hbq, HMN.out]; congr 1; rw [List.take_eq_take_iff]; omega
      have hex2 : bl (sq.extract m q.length) = q.drop size := by rw [← hql, Hg.bl_drop, hbq, HMN.out]; by_cases h : size ≤ q.length
                                                                 · rw [Nat.min_eq_left h]
                                                                 · rw [Nat.min_eq_right (by omega), List.drop_of_length_le (Nat.le_refl _), List.drop_of_length_le (by omega)]
      rw [hex2] at HZ
      generalize ((W3.setCell ⟨gx, 2, none⟩ (.string (sq.extract 0 m))).setCell ⟨w.heap.size, 0, none⟩ (.string (sq.extract m q.length))).drew = W5 at *
      clear hs1 HB2 HZ2 hs2 HZ3 HB3 ho1 ho2 hbe hdr f0 k2 f1 k0 hgn
      generalize sq.extract 0 m = xid at *
      generalize sq.extract m q.length = xrest at *
      subst hex1
      obtain ⟨d0, d1, d2⟩ := HB.out.tri
      obtain ⟨v1, y1, hrun1, ho1, hg1, _⟩ := app_recs HEL.out rent_len rent_one (W5.alloc (.cells #[.int .i64 md, .string (str nm), .string (str (q.take size))] 44)) (w.heap.size + 1) _ acc [⟨md, str nm, str (q.take size)⟩] (some ⟨W5.heap.size, 0, none⟩) 1 _ 22 (HY.out.1.alloc _) (rone_ent W5 ⟨md, str nm, str (q.take size)⟩) (by omega) (by simp) (by have := HB.out.lt; have := HZ.out.lt; simp; omega)
      have hba : Below W5.heap.size W5 (W5.alloc (.cells #[.int .i64 md, .string (str nm), .string (str (q.take size))] 44)) := (Below.refl _ W5).alloc (Nat.le_refl _) _
      have hb1 : Below (w.heap.size + 1) W5 y1 := (hba.mono (by have := HZ.out.lt; omega)).grown hg1 (by have := HZ.out.lt; simp; omega) (fun i hi => (HY.out.1.lt i hi).1)
      obtain ⟨A1, c1', rfl⟩ := rown_ents ho1
      have HRUN1 := Lib.hid hrun1
      try simp only [List.length_append, List.length_cons, List.length_nil, Nat.zero_add] at HRUN1
      have HE := Lib.hid (And.intro ho1 (And.intro (show Rest y1 w.heap.size (q.drop size) from (hb1.block _ (by omega)).trans HZ.out) (HY.out.2.trans (hb1.mono (by omega)))))
      clear hrun1 hg1 ho1 hba hb1
      go_wp2_with (at_builtin; refine wpList_append_run rfl (.tmp 29) (.tmp 31) 22 22 rfl _ _ _ y1 rfl rfl HRUN1.out ?_)
      go_roundg (q.drop size).length
      case rel => exact ⟨f', acc ++ [⟨md, str nm, str (q.take size)⟩], q.drop size, A1, c1', by rw [List.length_drop]; omega, rfl, by rw [List.length_drop]; omega, by first | rfl | simp, HE.out.2.1, HE.out.1, HE.out.2.2, by rw [HTS.out, List.append_assoc]; rfl⟩
      case measure => rw [List.length_drop]; omega
end Go.Proofs.YtapjgdhdgpakhaaGreatDoor.Hj
