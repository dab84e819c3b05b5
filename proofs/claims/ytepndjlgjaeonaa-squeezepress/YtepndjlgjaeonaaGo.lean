/-
  Pieces as arguments; Text (layer 8).
-/
import Derived.Test.YtepndjlgjaeonaaGn
import Derived.Test.YtepndjlgjaeonaaSzd
namespace Go.Proofs.Ytepndjlgjaeonaa.Hg
open Go.RowKit Go.ChangeShapes Go.WideShapes Go.ChangeAt Hr Hw
set_option linter.unusedVariables false

/-- a piece: its text, how often -/
abbrev Pc := ByteArray × Int
def pcells (a : Pc) : List Value := [.string a.1, .int .i64 a.2]
def PcOk (a : Pc) : Prop := a.1.size ≤ reachBytes ∧ (Lit.int .i64 a.2).wf = true
abbrev Pcs (w : World) (B : Nat) (A : Option Addr) (l : List Pc) : Prop := Recs 2 pcells w B A l
theorem c3 : Try.prog.cellsOf 3 = 1 := by kernel_rfl
theorem c9 : Try.prog.cellsOf 9 = 1 := by kernel_rfl
theorem c36 : Try.prog.cellsOf 36 = 2 := by kernel_rfl
set_option maxRecDepth 100000 in
theorem dec_piece {H : Type} {enc : TypeId × Value → H} {W : World} (fuel : Nat) (cs : List Value) (x : DataW H × List MemPlace) (hl : cs.length = 2) (h : DataW.trod enc Try.prog W 0 (fun _ => true) true fuel 36 cs = some x) (hz : ∀ n ∈ x.1.weights Try.prog 36, n ≤ reachBytes) : ∃ a, cs = pcells a ∧ PcOk a := by
  obtain ⟨c0, c1, rfl⟩ : ∃ c0 c1, cs = [c0, c1] := by
    match cs, hl with
    | [c0, c1], _ => exact ⟨_, _, rfl⟩
  obtain ⟨xs, n, _, rfl, _, hlen, hf⟩ := DataW.trod_struct Try.underlying36 h
  obtain ⟨y0, h0, g0⟩ := some_of_get (hf 0 _ rfl) hlen (by decide)
  obtain ⟨y1, h1, g1⟩ := some_of_get (hf 1 _ rfl) hlen (by decide)
  have h0 : DataW.trod enc Try.prog W 0 (fun _ => true) true n 9 (([c0, c1].drop 0).take (Try.prog.cellsOf 9)) = some y0 := h0
  have h1 : DataW.trod enc Try.prog W 0 (fun _ => true) true n 3 (([c0, c1].drop 1).take (Try.prog.cellsOf 3)) = some y1 := h1
  rw [c9] at h0
  rw [c3] at h1
  obtain ⟨a0, e0, q0, w0⟩ := DataW.trod_string Try.underlying9 h0
  obtain ⟨a1, e1, _, w1⟩ := DataW.trod_int Try.underlying3 h1
  change [c0] = _ at e0
  change [c1] = _ at e1
  injection e0 with e0 _
  injection e1 with e1 _
  subst e0; subst e1
  have hwe : ∀ n ∈ DataW.weightsEach Try.prog [9, 3] (xs.map (·.1)), n ≤ reachBytes := fun n hn => hz n (by simp only [DataW.weights, Try.underlying36]; exact hn)
  have hw0 := hwe a0.data.toList.length (DataW.weights_mem_each (j := 0) (t := 9) (d := .lit (.string a0.data.toList)) rfl (by rw [List.getElem?_map, g0, q0]; rfl) _ (by simp [DataW.weights]))
  exact ⟨(a0, a1), rfl, by simpa using hw0, w1⟩
set_option maxRecDepth 100000 in
theorem open_pieces {H : Type} {enc : TypeId × Value → H} {W : World} {base : Nat} {v : Value} {d : DataW H} {ps : List MemPlace} (hok : Value.okWide Try.prog W .any base 29 v)
    (h : DataW.Trod enc Try.prog W 0 (fun _ => true) true 29 v d ps) (hz : ∀ n ∈ d.weights Try.prog 29, n ≤ reachBytes) : ∃ (A : Option Addr) (l : List Pc) (c : Nat), v = .slice A l.length c ∧ Pcs W W.heap.size A l ∧ ∀ a ∈ l, PcOk a :=
  open_recs_sized Try.underlying29 c36 (by omega) PcOk (fun fuel cs x hl h hz => dec_piece fuel cs x hl h hz) hok h hz

set_option maxHeartbeats 4000000 in
set_option maxRecDepth 100000 in
theorem text_any (w : World) (B : Nat) (A : Option Addr) (c : Nat) (l : List Pc) (h : Pcs w B A l) (hB : B ≤ w.heap.size) (hz : ∀ a ∈ l, PcOk a) (hl : l.length ≤ 50) :
    Calls Try.prog 9 #[.slice A l.length c] w fun r w' => ∃ t : ByteArray, r = .returned (.string t) ∧ t.size ≤ 30000 ∧ Below w.heap.size w w' := by
  have HP := Lib.hid h
  have HZ := Lib.hid hz
  clear h hz
  go_enter Try.func9, Try.ntmps9
  go_wp2
  go_loopg [3, 4] l.length (fun gk v i wx => ∃ (j : Nat) (L : List UInt8), gk = l.length - j ∧ j ≤ l.length ∧ i = .int .i64 j ∧ Own wx w.heap.size v L ∧ L.length ≤ 30000 ∧ Below w.heap.size w wx)
  case atStart => exact ⟨0, [], rfl, Nat.zero_le _, rfl, own_nil _ _, by simp, Below.refl _ _⟩
  case round =>
    obtain ⟨j, L, rfl, hj, rfl, ho, hL, hb⟩ := hrel
    obtain ⟨A1, c1, rfl⟩ := ho.slice
    by_cases hlt : j < l.length
    · have hli : (j : Int) < l.length := by omega
      have hj0 : (0 : Int) ≤ j := by omega
      have HQ := Lib.hid (And.intro ho (And.intro hL hb))
      clear ho hb
      go_wp2_with fail
      go_loopg [3, 5] (30001 - L.length) (fun gk v k wx => ∃ (m : Nat) (M : List UInt8), gk = 30001 - M.length ∧ m ≤ M.length ∧ k = .int .i64 m ∧ Own wx w.heap.size v M ∧ M.length ≤ 30000 ∧ Below w.heap.size w wx)
      case atStart => exact ⟨0, L, rfl, Nat.zero_le _, rfl, HQ.out.1, HQ.out.2.1, HQ.out.2.2⟩
      case round =>
        obtain ⟨m, M, rfl, hm, rfl, ho, hM, hb⟩ := hrel
        obtain ⟨A2, c2, rfl⟩ := ho.slice
        obtain ⟨ad, rfl, hB1, hcc⟩ := (HP.out.below (hb.mono hB)) j hlt
        have hmem : l.getD j default ∈ l := by rw [List.getD_eq_getElem?_getD, List.getElem?_eq_getElem hlt]; simp
        have hok := HZ.out _ hmem
        have e0 : wr.cell? (ad.add (j * 2)) = some (.string (l.getD j default).1) := hcc 0 (by omega)
        have e1 : wr.cell? ⟨(ad.add (j * 2)).block, (ad.add (j * 2)).off + 1, none⟩ = some (.int .i64 (l.getD j default).2) := hcc 1 (by omega)
        have hp1 := hok.1
        have hr9 := reachBytes_lt
        generalize (l.getD j default).1 = S at *
        generalize (l.getD j default).2 = N at *
        have hw : IntKind.i64.wrap ((M.length : Int) + S.size) = (M.length : Int) + S.size := IntWalk.i64_in _ (by omega)
        have hwm : IntKind.i64.wrap ((m : Int) + 1) = (m : Int) + 1 := IntWalk.i64_in _ (by omega)
        have HO := Lib.hid ho
        have HB := Lib.hid hb
        clear ho hb hcc hok hmem
        by_cases h1 : (m : Int) < N
        · have d1 : decide ((m : Int) < N) = true := decide_eq_true h1
          by_cases h2 : 0 < S.size
          · have d2 : decide ((0 : Int) < S.size) = true := decide_eq_true (by omega)
            have h2i : (0 : Int) < S.size := by omega
            by_cases h3 : M.length + S.size ≤ 30000
            · have d3 : decide ((M.length : Int) + S.size ≤ 30000) = true := decide_eq_true (by omega)
              have h3i : (M.length : Int) + S.size ≤ 30000 := by omega
              go_wp2_with (at_builtin; refine wpList_app_str rfl (.tmp 42) (.tmp 47) rfl rfl HO.out HB.out.size S rfl (by omega) ?_; intro v1 w1 ho1 hb1; have HO1 := Lib.hid ho1; have HB1 := Lib.hid (HB.out.trans hb1); clear ho1 hb1)
              go_roundg (30001 - (M.length + S.size))
              case rel => exact ⟨m + 1, M ++ bl S, by rw [List.length_append, bl_length], by rw [List.length_append, bl_length]; omega, by go_num, HO1.out, by rw [List.length_append, bl_length]; omega, HB1.out⟩
              case measure => omega
            · have d3 : decide ((M.length : Int) + S.size ≤ 30000) = false := decide_eq_false (by omega)
              have h3i : ¬ (M.length : Int) + S.size ≤ 30000 := by omega
              go_wp2
              go_roundg (l.length - (j + 1))
              case rel => exact ⟨j + 1, M, rfl, by omega, by go_num, HO.out, hM, HB.out⟩
              case measure => omega
          · have d2 : decide ((0 : Int) < S.size) = false := decide_eq_false (by omega)
            have h2i : ¬ (0 : Int) < S.size := by omega
            go_wp2
            go_roundg (l.length - (j + 1))
            case rel => exact ⟨j + 1, M, rfl, by omega, by go_num, HO.out, hM, HB.out⟩
            case measure => omega
        · have d1 : decide ((m : Int) < N) = false := decide_eq_false h1
          go_wp2
          go_roundg (l.length - (j + 1))
          case rel => exact ⟨j + 1, M, rfl, by omega, by go_num, HO.out, hM, HB.out⟩
          case measure => omega
    · obtain rfl : j = l.length := by omega
      have hli : ¬ (l.length : Int) < l.length := by omega
      have hst := ho.str
      have HB := Lib.hid hb
      clear ho hb
      go_wp2
      go_ret
      exact ⟨_, rfl, by rw [str_size]; exact hL, HB.out⟩
end Go.Proofs.Ytepndjlgjaeonaa.Hg
