/-
  Layer 10: contents up to the limit (IdentLimit), by what the program's ident is to answer.
-/
import Derived.Test.YtmbbigmnliiadaaDoorK1
import Derived.Laws.OwnMore
import Derived.Deep.DeepCutAuto
namespace Go.Proofs.YtmbbigmnliiadaaDoor.Hi
open Go.RowKit Hg Hs Hd
set_option linter.unusedVariables false

theorem wide_size (r : ByteArray) : (Idf.wide r).size = 32 := by
  show (S2.sum r.data.toList).toArray.size = 32
  rw [List.size_toArray]
  exact S2.told_length _ 8
theorem narrow_size (r : ByteArray) : (Idf.narrow r).size = 20 := by
  show (Sh.sum r.data.toList).toArray.size = 20
  rw [List.size_toArray]
  exact Sh.told_length _ 5
theorem made_zeros (n : Nat) : (madeCells (Value.int .u8 0).cells (n * 1)).toList = (List.replicate n (0 : UInt8)).map fun c => Value.int .u8 c.toNat := by
  have e : (Value.int .u8 0).cells = #[.int .u8 0] := rfl
  rw [e, Nat.mul_one, List.map_replicate]
  apply List.ext_getElem
  · simp [madeCells]
  · intro i h1 h2
    simp [madeCells, Nat.mod_one]
theorem make_full (w : World) (n : Nat) (hn : n ≤ 1000000) : ∃ w', (Instr.makeSlice 41 (.int .i64 (n : Int)) (.int .i64 (n : Int))).run Tryd.prog w = .ok (.slice (some ⟨w.heap.size, 0, none⟩) n n) w' ∧ Own w' w.heap.size (.slice (some ⟨w.heap.size, 0, none⟩) n n) (List.replicate n 0) ∧ Below w.heap.size w w' := by
  obtain ⟨i0, hi0, hz0, hz1, hz2⟩ := info_parts Tryd.info5
  obtain ⟨w', h1, h2, h3⟩ := run_makeSlice_full (P := Tryd.prog) w w.heap.size 41 5 i0 (.int .u8 0) 1 Tryd.underlying41 hi0 hz0 hz1 .i64 .i64 n (by omega) (by rw [hz2]; omega) (by unfold maxLen; omega) (Nat.le_refl _)
  refine ⟨w', h1, ?_, (Below.refl _ w).grown h3 (Nat.le_refl _) (fun k hk => by cases hk)⟩
  unfold Own
  rw [List.length_replicate, ← made_zeros]
  exact h2
theorem own_store {w : World} {B g n c : Nat} {l : List UInt8} (h : Own w B (.slice (some ⟨g, 0, none⟩) n c) l) (hn : l.length = n) (j : Nat) (x : UInt8) : Own (w.setCell ⟨g, j, none⟩ (.int .u8 x.toNat)) B (.slice (some ⟨g, 0, none⟩) n c) (l.set j x) := by
  subst hn
  have := (World.ownsRow.stored (h := h) j (.int .u8 x.toNat)).1
  unfold Own
  rw [List.length_set, List.map_set]
  exact this
theorem own_there {w : World} {B g n c : Nat} {l : List UInt8} (h : Own w B (.slice (some ⟨g, 0, none⟩) n c) l) (hn : l.length = n) {j : Nat} (hj : j < n) : w.cell? ⟨g, j, none⟩ = some (.int .u8 (l.getD j 0).toNat) ∧ w.frozen? ⟨g, j, none⟩ = false := by
  subst hn
  obtain ⟨g', c', e, hc⟩ := h.cell hj
  injection e with e1 e2 e3
  injection e1 with e1
  injection e1 with e1
  subst e1
  refine ⟨hc, ?_⟩
  rcases h.2 with ⟨h', h0⟩ | ⟨g2, cap, cur, h', hb, hg, _⟩
  · simp at h'
  · injection h' with e1 e2 e3
    injection e1 with e1
    injection e1 with e1
    subst e1
    exact unfrozen_of_cells hg j

set_option maxHeartbeats 4000000 in
set_option maxRecDepth 100000 in
theorem limit_any (F : Faces) (over : Int) (c : UInt8) (w : World) (hK : Kt w) : Calls Tryd.prog 4 #[.int .i64 over, .int .u8 c.toNat] w fun e w' => e = .returned (.bool true) ∧ Below w.heap.size w w' := by
  have HK := Lib.hid hK
  have HF := Lib.hid F
  have HA := Lib.hid (awake10_any F w hK)
  clear hK F
  go_enter Tryd.func4, Tryd.ntmps4
  go_upto_region 3 with (go_at_call 6; refine HA.out.mono ?_; rintro r w1 ⟨rfl, hb1⟩)
  by_cases h1 : over < -5
  · go_wp2
    go_ret
    exact ⟨rfl, hb1⟩
  · by_cases h2 : 5 < over
    · go_wp2
      go_ret
      exact ⟨rfl, hb1⟩
    · obtain ⟨n, hn⟩ : ∃ n : Nat, 65536 + over = n := ⟨(65536 + over).toNat, by omega⟩
      have wn : IntKind.i64.wrap (65536 + over) = n := (IntWalk.i64_in _ (by omega)).trans hn
      obtain ⟨W0, hmk, hown, hbl⟩ := make_full w1 n (by omega)
      have HB0 := Lib.hid (hb1.trans (hbl.mono hb1.size))
      have HB1 := Lib.hid hb1
      have HKW := Lib.hid ((HK.out.under hb1).under hbl)
      have HO := Lib.hid hown
      clear hb1 hbl hown
      go_wp2_with fail
      clear hmk wn
      go_loopg [6] n (fun gk v wr => ∃ (k : Nat) (l : List UInt8), gk = n - k ∧ v = .int .i64 k ∧ k ≤ n ∧ l.length = n ∧ Own wr w1.heap.size (.slice (some ⟨w1.heap.size, 0, none⟩) n n) l ∧ Below w.heap.size w wr)
      case atStart => exact ⟨0, List.replicate n 0, rfl, rfl, Nat.zero_le _, List.length_replicate, HO.out, HB0.out⟩
      case round =>
        obtain ⟨k, l, rfl, rfl, hk, hl, ho, hbl⟩ := hrel
        by_cases hlt : k < n
        · have hki : (k : Int) < n := by omega
          have hk0 : (0 : Int) ≤ k := by omega
          obtain ⟨c1, f1⟩ := own_there ho hl hlt
          have HO2 := Lib.hid (And.intro (own_store ho hl k c) (And.intro (show (l.set k c).length = n by rw [List.length_set]; exact hl) (hbl.setCell (p := ⟨w1.heap.size, k, none⟩) HB1.out.size (.int .u8 c.toNat))))
          clear ho hbl hl
          go_wp2
          go_roundg (n - (k + 1))
          case rel => exact ⟨k + 1, l.set k c, rfl, by go_num, by omega, HO2.out.2.1, HO2.out.1, HO2.out.2.2⟩
          case measure => omega
        · have hki : ¬ (k : Int) < n := by omega
          have hst := ho.str
          have HI := Lib.hid (HF.out.idw 1 (str l) wr (HK.out.under hbl) (by rw [str_size]; omega))
          have hsz : (str l).size = n := by rw [str_size]; exact hl
          generalize str l = X at *
          have HBL := Lib.hid hbl
          clear ho hbl hl
          by_cases h3 : 65536 < n
          · have o1 : (0 : Int) < over := by omega
            rw [Idf.id_limit (sp := 2) (k := 1) (by decide) (.inr rfl) (by rw [hsz]; exact h3)] at HI
            go_wp2_with (go_at_call 12; refine HI.out.mono ?_; rintro r w5 ⟨rfl, hb5⟩)
            go_ret
            exact ⟨rfl, HBL.out.trans (hb5.mono HBL.out.size)⟩
          · have o1 : ¬ (0 : Int) < over := by omega
            rw [Idf.id_wide (k := 1) (by decide) (by rw [hsz]; exact h3)] at HI
            have hws : ((Idf.wide (Idf.row 1 X)).size : Int) = 32 := by rw [wide_size]; rfl
            generalize Idf.wide (Idf.row 1 X) = D at *
            go_wp2_with (go_at_call 12; refine HI.out.mono ?_; rintro r w5 ⟨rfl, hb5⟩)
            go_ret
            exact ⟨rfl, HBL.out.trans (hb5.mono HBL.out.size)⟩
end Go.Proofs.YtmbbigmnliiadaaDoor.Hi
