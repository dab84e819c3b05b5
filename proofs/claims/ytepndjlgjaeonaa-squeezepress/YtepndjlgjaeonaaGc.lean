/-
  The contract of the document's Open (layer 8).
-/
import Derived.Test.YtepndjlgjaeonaaGb
import Derived.Deep.DeepCutAuto
import Derived.Deep.CutBlock
import Derived.BigQuiet
namespace Go.Proofs.Ytepndjlgjaeonaa.Hg
open Go.RowKit
set_option linter.unusedVariables false

/-- what Open answers -/
def ans (r : List UInt8 × Int) : Value := .tuple #[.string (str r.1), .int .i64 r.2]
theorem ans_mk {r : List UInt8 × Int} {l : List UInt8} {c : Int} (h : r = (l, c)) : Ending.returned (.tuple #[.string (str l), .int .i64 c]) = .returned (ans r) := by rw [h]; rfl
theorem ans_no {r : List UInt8 × Int} {c : Int} (h : r = ([], c)) : Ending.returned (.tuple #[.string ⟨#[]⟩, .int .i64 c]) = .returned (ans r) := by rw [h]; rfl
theorem getD_at (s : ByteArray) (k j : Nat) (h : k + j < s.size) : ((bl s).drop k).getD j 0 = s[k + j] := by rw [Sq.drop_getD, bl_getD s _ h]
theorem bl_drop (s : ByteArray) (c : Nat) : bl (s.extract c s.size) = (bl s).drop c := by
  simp [bl, List.extract_eq_take_drop]
  exact List.take_of_length_le (by simp)
theorem bl_extract (s : ByteArray) (a b : Nat) : bl (s.extract a b) = ((bl s).take b).drop a := by
  simp [bl, List.extract_eq_take_drop, List.drop_take]
theorem bl_mid (s : ByteArray) (a n : Nat) : bl (s.extract a (a + n)) = ((bl s).drop a).take n := by
  rw [bl_extract, List.drop_take]
  congr 1
  omega
theorem openF_one (s : ByteArray) (M : Nat) (h : 0 < s.size) (h1 : (s[0]'h).toNat = 1) : Sq.openF (bl s) M = Sq.goF M [] ((bl s).drop 1) := by
  have h0 : (bl s).getD 0 0 = s[0] := bl_getD s 0 h
  match e : bl s with
  | [] => have := bl_length s; rw [e] at this; simp at this; omega
  | c :: r =>
    rw [e] at h0
    simp at h0
    subst h0
    simp [Sq.openF, h1]
theorem openF_nought (s : ByteArray) (M : Nat) (h : 0 < s.size) (h1 : (s[0]'h).toNat = 0) : Sq.openF (bl s) M = if M < s.size - 1 then ([], 9) else ((bl s).drop 1, 0) := by
  have h0 : (bl s).getD 0 0 = s[0] := bl_getD s 0 h
  have hl := bl_length s
  match e : bl s with
  | [] => rw [e] at hl; simp at hl; omega
  | c :: r =>
    rw [e] at h0 hl
    simp at h0 hl
    subst h0
    have : s.size - 1 = r.length := by omega
    simp [Sq.openF, h1, this]
theorem openF_form (s : ByteArray) (M : Nat) (h : 0 < s.size) (h1 : 1 < (s[0]'h).toNat) : Sq.openF (bl s) M = ([], 3) := by
  have h0 : (bl s).getD 0 0 = s[0] := bl_getD s 0 h
  match e : bl s with
  | [] => have := bl_length s; rw [e] at this; simp at this; omega
  | c :: r =>
    rw [e] at h0
    simp at h0
    subst h0
    simp [Sq.openF, show ¬ (s[0].toNat = 0) by omega, show ¬ (s[0].toNat = 1) by omega]
theorem openF_short (s : ByteArray) (M : Nat) (h : s.size = 0) : Sq.openF (bl s) M = ([], 2) := by
  have hl := bl_length s
  rw [h] at hl
  rw [List.eq_nil_of_length_eq_zero hl]; rfl

theorem slice_mid (s : ByteArray) (a b : Nat) (x y : Int) (hx : x = a) (hy : y = b) (h1 : a ≤ b) (h : b ≤ s.size) (W : World) : (Instr.slice 9 (.string s) (some (.int .i64 x)) (some (.int .i64 y)) none).run Try.prog W = .ok (.string (s.extract a b)) W := by
  subst hx hy
  have h := run_slice_string (P := Try.prog) (w := W) 9 s .i64 .i64 (a : Int) (b : Int) Try.underlying9 (by omega) (by omega) (by omega)
  rw [h, Int.toNat_natCast, Int.toNat_natCast]
theorem slice_from (s : ByteArray) (n : Nat) (x : Int) (hx : x = n) (h : n ≤ s.size) (W : World) : (Instr.slice 9 (.string s) (some (.int .i64 x)) none none).run Try.prog W = .ok (.string (s.extract n s.size)) W := by
  subst hx
  have h := run_slice_string_l (P := Try.prog) (w := W) (t := 9) (s := s) Try.underlying9 .i64 (n : Int) (by omega) (by omega)
  rw [h, Int.toNat_natCast]
theorem slice_to (s : ByteArray) (n : Nat) (x : Int) (hx : x = n) (h : n ≤ s.size) (W : World) : (Instr.slice 9 (.string s) none (some (.int .i64 x)) none).run Try.prog W = .ok (.string (s.extract 0 n)) W := by
  subst hx
  have h := run_slice_string_h (P := Try.prog) (w := W) (t := 9) (s := s) Try.underlying9 .i64 (n : Int) (by omega) (by omega)
  rw [h, Int.toNat_natCast]

/-- a text as the document's loop has told it -/
structure Mid (w wr : World) (s : ByteArray) (M k : Nat) (v : Value) (t : List UInt8) : Prop where
  k1 : 1 ≤ k
  k2 : k ≤ s.size
  own : Own wr w.heap.size v t
  below : Below w.heap.size w wr
  small : t.length ≤ 131 * k
  goes : Sq.goF M [] ((bl s).drop 1) = Sq.goF M t ((bl s).drop k)

set_option maxHeartbeats 2000000 in
set_option maxRecDepth 100000 in
theorem ropen_any (s : ByteArray) (m : Int) (w : World) (hs : s.size ≤ 100000) :
    Calls Try.prog 8 #[.string s, .int .i64 m] w fun e w' => e = .returned (ans (Sq.openF (bl s) m.toNat)) ∧ Below w.heap.size w w' := by
  obtain ⟨M, hM⟩ : ∃ M, m.toNat = M := ⟨_, rfl⟩
  rw [hM]
  have HM := Lib.hid hM
  clear hM
  go_enter Try.func8, Try.ntmps8
  go_upto_if 12 with fail
  go_cut [1] (fun s1 wx => s1 = .int .i64 M ∧ w = wx)
  case first =>
    by_cases h : m < 0
    · go_wp2
      go_meet
      exact ⟨by have := HM.out; rw [show M = 0 by omega]; rfl, rfl⟩
    · go_wp2
      go_meet
      exact ⟨by have := HM.out; rw [show m = (M : Int) by omega], rfl⟩
  case rest =>
    obtain ⟨rfl, rfl⟩ := hcut
    clear HM
    by_cases h0 : s.size = 0
    · have HE := Lib.hid (openF_short s M h0)
      have hz : ((s.size : Int) == 0) = true := by simp [h0]
      clear h0
      go_wp2
      go_ret2
      exact ⟨ans_no HE.out, Below.refl _ _⟩
    · have hpos : 0 < s.size := by omega
      have hz : ((s.size : Int) == 0) = false := beq_eq_false_iff_ne.2 (by omega)
      have hpi : (0 : Int) < s.size := by omega
      clear h0
      by_cases hf : 1 < s[0].toNat
      · have HE := Lib.hid (openF_form s M hpos hf)
        have h1 : (1 : Int) < s[0].toNat := by omega
        clear hf
        go_wp2
        go_ret2
        exact ⟨ans_no HE.out, Below.refl _ _⟩
      · have h1 : ¬ (1 : Int) < s[0].toNat := by omega
        by_cases hn : s[0].toNat = 0
        · have HE := Lib.hid (openF_nought s M hpos hn)
          have hn1 : ((s[0].toNat : Int) == 0) = true := by simp [hn]
          clear hn hf
          by_cases hM : M < s.size - 1
          · rw [if_pos hM] at HE
            have hM1 : (M : Int) < (s.size : Int) - 1 := by omega
            clear hM
            go_wp2
            go_ret2
            exact ⟨ans_no HE.out, Below.refl _ _⟩
          · rw [if_neg hM] at HE
            have hM1 : ¬ (M : Int) < (s.size : Int) - 1 := by omega
            have hsl := slice_from s 1 1 rfl hpos
            have HX := Lib.hid (bl_drop s 1)
            clear hM
            generalize s.extract 1 s.size = X at *
            go_wp2
            go_ret2
            exact ⟨by rw [show X = str ((bl s).drop 1) by rw [← HX.out, str_bl]]; exact ans_mk HE.out, Below.refl _ _⟩
        · have HE := Lib.hid (openF_one s M hpos (by omega))
          have hn1 : ((s[0].toNat : Int) == 0) = false := by simp; omega
          clear hn hf
          go_wp2
          clear h1 hn1
          go_loopg [6, 7] (s.size - 1) (fun gk v i wr => ∃ (k : Nat) (t : List UInt8), gk = s.size - k ∧ i = .int .i64 k ∧ Mid w wr s M k v t)
          case atStart => exact ⟨1, [], rfl, rfl, ⟨Nat.le_refl _, hpos, own_nil _ _, Below.refl _ _, by simp, rfl⟩⟩
          case round =>
            obtain ⟨k, t, rfl, rfl, hmid⟩ := hrel
            obtain ⟨A, cp, rfl⟩ := hmid.own.slice
            have hk1 := hmid.k1
            have hk2 := hmid.k2
            have hsm := hmid.small
            have HMID := Lib.hid hmid
            clear hmid
            by_cases hlt : k < s.size
            · have hki : (k : Int) < s.size := by omega
              have hk0 : (0 : Int) ≤ k := by omega
              have hne := Sq.drop_cons_ne (s := bl s) (k := k) (by rw [bl_length]; exact hlt)
              have hg0 := getD_at s k 0 hlt
              obtain ⟨c, hc⟩ : ∃ c, s[k].toNat = c := ⟨_, rfl⟩
              have hgc : (((bl s).drop k).getD 0 0).toNat = c := by rw [hg0]; exact hc
              have hci : (s[k].toNat : Int) = c := by rw [hc]
              have hc256 : c < 256 := by rw [← hc]; exact s[k].toNat_lt
              have hlen : ((bl s).drop k).length = s.size - k := by simp [bl_length]
              have HNE := Lib.hid hne
              have HGC := Lib.hid hgc
              have HLEN := Lib.hid hlen
              clear hne hg0 hgc hlen hc
              by_cases hc1 : c < 128
              · have hc2 : (c : Int) < 128 := by omega
                by_cases hA : s.size - k < c + 2
                · have hA1 : (s.size : Int) ≤ k + 1 + c := by omega
                  have HC := Lib.hid (Sq.go_code HNE.out (Sq.litShort (M := M) (t := t) HGC.out hc1 (by rw [HLEN.out]; exact hA)) (by decide))
                  clear hA
                  go_wp2
                  go_ret2
                  exact ⟨ans_no (HE.out.trans (HMID.out.goes.trans HC.out)), HMID.out.below⟩
                · have hA1 : ¬ (s.size : Int) ≤ k + 1 + c := by omega
                  by_cases hL : M < t.length + (c + 1)
                  · have hL1 : (M : Int) < t.length + c + 1 := by omega
                    have HC := Lib.hid (Sq.go_code HNE.out (Sq.litLimit (M := M) (t := t) HGC.out hc1 (by rw [HLEN.out]; omega) hL) (by decide))
                    clear hL hA
                    go_wp2
                    go_ret2
                    exact ⟨ans_no (HE.out.trans (HMID.out.goes.trans HC.out)), HMID.out.below⟩
                  · have hL1 : ¬ (M : Int) < t.length + c + 1 := by omega
                    have HC := Lib.hid (Sq.go_good HNE.out (Sq.litGood (M := M) (t := t) HGC.out hc1 (by rw [HLEN.out]; omega) (by omega)))
                    rw [Sq.litTells HGC.out hc1, Sq.litSize HGC.out hc1, List.drop_drop, List.drop_drop] at HC
                    have hsl := slice_mid s (k + 1) (k + 2 + c) ((k : Int) + 1) ((k : Int) + 2 + c) (by omega) (by omega) (by omega) (by omega)
                    have hbx : bl (s.extract (k + 1) (k + 2 + c)) = ((bl s).drop (k + 1)).take (c + 1) := by rw [show k + 2 + c = k + 1 + (c + 1) by omega]; exact bl_mid s (k + 1) (c + 1)
                    have hsx : (s.extract (k + 1) (k + 2 + c)).size = c + 1 := by rw [ByteArray.size_extract]; omega
                    rw [← hbx] at HC
                    have HSX := Lib.hid hsx
                    clear hL hA hbx hsx
                    generalize s.extract (k + 1) (k + 2 + c) = X at *
                    go_wp2_with (at_builtin; refine wpList_app_str rfl (.tmp 53) (.tmp 61) rfl rfl HMID.out.own HMID.out.below.size X rfl (by rw [HSX.out]; omega) ?_; intro v1 w1 ho1 hb1)
                    have HO1 := Lib.hid ho1
                    have HB1 := Lib.hid (HMID.out.below.trans hb1)
                    clear ho1 hb1
                    go_roundg (s.size - (k + 2 + c))
                    case rel => exact ⟨k + 2 + c, t ++ bl X, rfl, by go_num, ⟨by omega, by omega, HO1.out, HB1.out, by rw [List.length_append, bl_length, HSX.out]; omega, by rw [HMID.out.goes, HC.out]; congr 2; omega⟩⟩
                    case measure => omega
              · have hc2 : ¬ (c : Int) < 128 := by omega
                by_cases hA : s.size - k < 3
                · have hA1 : (s.size : Int) ≤ k + 2 := by omega
                  have HC := Lib.hid (Sq.go_code HNE.out (Sq.agShort (M := M) (t := t) HGC.out (by omega) (by rw [HLEN.out]; exact hA)) (by decide))
                  clear hA
                  go_wp2
                  go_ret2
                  exact ⟨ans_no (HE.out.trans (HMID.out.goes.trans HC.out)), HMID.out.below⟩
                · have hA1 : ¬ (s.size : Int) ≤ k + 2 := by omega
                  obtain ⟨k1, hk1e⟩ : ∃ k1, k + 1 = k1 := ⟨_, rfl⟩
                  obtain ⟨k2, hk2e⟩ : ∃ k2, k + 2 = k2 := ⟨_, rfl⟩
                  have hx1 : k1 < s.size := by omega
                  have hx2 : k2 < s.size := by omega
                  have hk1i : (k1 : Int) < s.size := by omega
                  have hk2i : (k2 : Int) < s.size := by omega
                  have hk10 : (0 : Int) ≤ k1 := by omega
                  have hk20 : (0 : Int) ≤ k2 := by omega
                  have hw1 : IntKind.i64.wrap ((k : Int) + 1) = k1 := (IntWalk.i64_in _ (by omega)).trans (by omega)
                  have hw2 : IntKind.i64.wrap ((k : Int) + 2) = k2 := (IntWalk.i64_in _ (by omega)).trans (by omega)
                  have hd : Sq.dist ((bl s).drop k) = s[k1].toNat * 256 + s[k2].toNat := by subst hk1e; subst hk2e; unfold Sq.dist; rw [getD_at s k 1 hx1, getD_at s k 2 hx2]
                  have hy1 : s[k1].toNat < 256 := s[k1].toNat_lt
                  have hy2 : s[k2].toNat < 256 := s[k2].toNat_lt
                  obtain ⟨a, ha⟩ : ∃ a, s[k1].toNat = a := ⟨_, rfl⟩
                  obtain ⟨b, hb⟩ : ∃ b, s[k2].toNat = b := ⟨_, rfl⟩
                  have hai : (s[k1].toNat : Int) = a := by rw [ha]
                  have hbi : (s[k2].toNat : Int) = b := by rw [hb]
                  rw [ha, hb] at hd
                  rw [ha] at hy1
                  rw [hb] at hy2
                  have hw5 : IntKind.i64.wrap (a : Int) = a := IntWalk.i64_in _ (by omega)
                  have hw6 : IntKind.i64.wrap (b : Int) = b := IntWalk.i64_in _ (by omega)
                  have hw4 : IntKind.i64.wrap ((a : Int) * 256) = (a : Int) * 256 := IntWalk.i64_in _ (by omega)
                  have hw3 : IntKind.i64.wrap ((a : Int) * 256 + b) = (a : Int) * 256 + b := IntWalk.i64_in _ (by omega)
                  obtain ⟨F, hF⟩ : ∃ F, a * 256 + b = F := ⟨_, rfl⟩
                  have hFi : (a : Int) * 256 + b = F := by omega
                  rw [hF] at hd
                  have HD := Lib.hid hd
                  have hF2 : F < 65536 := by omega
                  clear hd ha hb hF
                  go_wp2_with fail
                  refine wp_region_still_lit (by kernel_rfl) (by kernel_rfl) ?_
                  change wpStill _ _ (World.drew _) (fun a' => Exit.then _ _ _ a' (World.drew _)) _ _
                  iterate 13 ((with_reducible refine wpStill_step ?_); intro K hK; go_simp; refine hK _ ?_; clear hK K)
                  refine wpStill_nil ?_
                  try simp only [hw5, hw6, hw4, hw3, hFi]
                  clear hai hbi hFi hw1 hw2 hw3 hw4 hw5 hw6 hk1i hk2i hk10 hk20 hx1 hx2 hk1e hk2e
                  by_cases hF0 : F = 0
                  · have HC := Lib.hid (Sq.go_code HNE.out (Sq.agForm (M := M) (t := t) HGC.out (by omega) (by rw [HLEN.out]; omega) (by rw [HD.out]; exact .inl hF0)) (by decide))
                    have hF1 : (F : Int) < 1 := by omega
                    clear hF0
                    go_wp2
                    go_ret2
                    exact ⟨ans_no (HE.out.trans (HMID.out.goes.trans HC.out)), HMID.out.below.drew⟩
                  · have hF1 : ¬ (F : Int) < 1 := by omega
                    by_cases hFt : t.length < F
                    · have HC := Lib.hid (Sq.go_code HNE.out (Sq.agForm (M := M) (t := t) HGC.out (by omega) (by rw [HLEN.out]; omega) (by rw [HD.out]; exact .inr hFt)) (by decide))
                      have hFt1 : (t.length : Int) < F := by omega
                      clear hF0 hFt
                      go_wp2
                      go_ret2
                      exact ⟨ans_no (HE.out.trans (HMID.out.goes.trans HC.out)), HMID.out.below.drew⟩
                    · have hFt1 : ¬ (t.length : Int) < F := by omega
                      have hno : ¬ (Sq.dist ((bl s).drop k) = 0 ∨ t.length < Sq.dist ((bl s).drop k)) := by rw [HD.out]; omega
                      by_cases hL : M < t.length + (c - 124)
                      · have hL1 : (M : Int) < t.length + c - 124 := by omega
                        have HC := Lib.hid (Sq.go_code HNE.out (Sq.agLimit (M := M) (t := t) HGC.out (by omega) (by rw [HLEN.out]; omega) hno hL) (by decide))
                        clear hL hno hF0 hFt
                        go_wp2
                        go_ret2
                        exact ⟨ans_no (HE.out.trans (HMID.out.goes.trans HC.out)), HMID.out.below.drew⟩
                      · have hL1 : ¬ (M : Int) < t.length + c - 124 := by omega
                        have HC := Lib.hid (Sq.go_good HNE.out (Sq.agGood (M := M) (t := t) HGC.out (by omega) (by rw [HLEN.out]; omega) hno (by omega)))
                        rw [Sq.agTells HGC.out (by omega), Sq.agSize HGC.out (by omega), List.drop_drop, HD.out] at HC
                        obtain ⟨n, hn⟩ : ∃ n, c = n + 124 := ⟨c - 124, by omega⟩
                        have hni : (c : Int) - 124 = n := by omega
                        rw [show c - 124 = n by omega] at HC
                        have hn131 : n ≤ 131 := by omega
                        have HFF := Lib.hid (And.intro hF0 hFt)
                        clear hL hno hF0 hFt
                        go_wp2
                        clear hn
                        go_loopg [6, 10] n (fun gk v i wx => ∃ j : Nat, j ≤ n ∧ gk = n - j ∧ i = .int .i64 j ∧ Own wx w.heap.size v (Sq.agn j F t) ∧ Below w.heap.size w wx)
                        case atStart => exact ⟨0, Nat.zero_le _, rfl, rfl, HMID.out.own, HMID.out.below.drew⟩
                        case round =>
                          obtain ⟨j, hj, rfl, rfl, ho, hbl⟩ := hrel
                          have hal := Sq.agn_length j F t
                          have hsn := Sq.agn_snoc j F t
                          by_cases hjn : j < n
                          · have hji : (j : Int) < n := by omega
                            have hFF := HFF.out
                            have hlt1 : (Sq.agn j F t).length - F < (Sq.agn j F t).length := by rw [hal]; omega
                            obtain ⟨g, cp1, rfl, hcell⟩ := ho.cell hlt1
                            obtain ⟨q, hq⟩ : ∃ q, (Sq.agn j F t).length - F = q := ⟨_, rfl⟩
                            rw [hq] at hcell hsn hlt1
                            have hqi : ((Sq.agn j F t).length : Int) - F = q := by rw [hal] at hq ⊢; omega
                            have hq0 : (0 : Int) ≤ q := by omega
                            have hq1 : (q : Int) < (Sq.agn j F t).length := by omega
                            have hl9 : (Sq.agn j F t).length ≤ 20000000 := by rw [hal]; omega
                            generalize Sq.agn j F t = T at *
                            generalize T.getD q 0 = y at *
                            have HSN := Lib.hid hsn
                            have HO := Lib.hid (ho.alloc (.cells #[.int .u8 y.toNat] 5))
                            have HBL := Lib.hid (hbl.alloc hbl.size (.cells #[.int .u8 y.toNat] 5))
                            have HH := Lib.hid (heap_alloc_new wr (.cells #[.int .u8 y.toNat] 5))
                            clear hsn hal hq ho hbl hFF
                            go_wp2_with (at_builtin; refine wpList_app_row rfl (.tmp 105) (.tmp 113) rfl rfl HO.out HBL.out.size [y] _ 1 1 rfl rfl HH.out (by simp; omega) ?_; intro v1 w1 ho1 hb1)
                            have HO1 := Lib.hid ho1
                            have HB1 := Lib.hid (HBL.out.trans hb1)
                            clear ho1 hb1
                            go_roundg (n - (j + 1))
                            case rel => exact ⟨j + 1, by omega, rfl, by go_num, by rw [HSN.out]; exact HO1.out, HB1.out⟩
                            case measure => omega
                          · obtain rfl : j = n := by omega
                            have hji : ¬ (j : Int) < j := by omega
                            obtain ⟨A1, c1, rfl⟩ := ho.slice
                            have HO := Lib.hid ho
                            have HBL := Lib.hid hbl
                            have HAL := Lib.hid hal
                            clear ho hbl hal hsn
                            generalize Sq.agn j F t = T at *
                            go_wp2
                            go_roundg (s.size - (k + 3))
                            case rel => exact ⟨k + 3, T, rfl, by go_num, ⟨by omega, by omega, HO.out, HBL.out, by rw [HAL.out]; omega, by rw [HMID.out.goes, HC.out]⟩⟩
                            case measure => omega
            · obtain rfl : k = s.size := by omega
              have hki : ¬ (s.size : Int) < s.size := by omega
              have hst := HMID.out.own.str
              have HC := Lib.hid (show Sq.goF M t ((bl s).drop s.size) = (t, 0) by rw [List.drop_of_length_le (by rw [bl_length]; exact Nat.le_refl _), Sq.go_nil])
              go_wp2
              go_ret2
              exact ⟨ans_mk (HE.out.trans (HMID.out.goes.trans HC.out)), HMID.out.below⟩
end Go.Proofs.Ytepndjlgjaeonaa.Hg
