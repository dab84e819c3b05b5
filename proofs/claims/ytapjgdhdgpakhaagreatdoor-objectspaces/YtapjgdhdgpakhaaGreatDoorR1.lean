/-
  Layer 11, the program's side: texts cut at a byte; numbers out of texts; a person and a time out of a line.
-/
import Derived.Test.YtapjgdhdgpakhaaGreatDoorO8
import Derived.OwnWalk
import Derived.Lib.AtoiErrMem
namespace Go.Proofs.YtapjgdhdgpakhaaGreatDoor.Hj
open Go.RowKit Ob Hr
set_option linter.unusedVariables false

theorem cutN_index (c : UInt8) : ∀ l : List UInt8, (Lib.indexByte l c = -1 ∧ cutN c l = (l, [])) ∨ ∃ i : Nat, Lib.indexByte l c = i ∧ i < l.length ∧ cutN c l = (l.take i, l.drop (i + 1))
  | [] => .inl ⟨rfl, rfl⟩
  | x :: r => by
    rw [Lib.indexByte]
    unfold cutN upto
    by_cases hx : x = c
    · subst hx
      rw [if_pos (by simp), if_pos rfl]
      exact .inr ⟨0, rfl, by simp, rfl⟩
    · rw [if_neg (by simpa using hx), if_neg hx]
      rcases cutN_index c r with ⟨h1, h2⟩ | ⟨i, h1, h2, h3⟩
      · unfold cutN at h2
        rw [h1]
        cases hu : upto c r with
        | none => exact .inl ⟨rfl, rfl⟩
        | some p =>
          have := (upto_some (a := p.1) (b := p.2) hu).1
          rw [hu] at h2
          simp only at h2
          have e := congrArg List.length this
          rw [h2] at e
          simp at e
      · unfold cutN at h3
        rw [h1, if_neg (by simp only [beq_iff_eq]; omega)]
        refine .inr ⟨i + 1, by simp, by simp; omega, ?_⟩
        cases hu : upto c r with
        | none =>
          rw [hu] at h3
          simp only [Prod.mk.injEq] at h3
          have e := congrArg List.length h3.1
          rw [List.length_take] at e
          omega
        | some p =>
          rw [hu] at h3
          simp only at h3
          simp only [Option.map_some, h3]
          rfl
theorem ext_take (s : ByteArray) (i : Nat) : s.extract 0 i = str ((bl s).take i) := bl_inj (by rw [bl_str]; simp [bl])
theorem ext_drop (s : ByteArray) (i : Nat) : s.extract i s.size = str ((bl s).drop i) := bl_inj (by
  rw [bl_str]
  simp only [bl, ByteArray.data_extract, Array.toList_extract, List.extract_eq_take_drop]
  rw [List.take_of_length_le (by rw [List.length_drop]; show s.data.toList.length - i ≤ s.data.size - i; simp)])

/-- a text cut at a byte -/
def cutV (s : ByteArray) (c : UInt8) (b : Bool) : Ending := .returned (.tuple #[.string (str (cutN c (bl s)).1), .string (str (cutN c (bl s)).2), .bool b])
set_option maxHeartbeats 2000000 in
set_option maxRecDepth 100000 in
theorem cutIn_any (s : ByteArray) (c : UInt8) (w : World) (hs : s.size ≤ 1000000) : Calls Tryz.prog 83 #[.string s, .string ⟨#[c]⟩] w fun e w' => (∃ b, e = cutV s c b) ∧ Below w.heap.size w w' := by
  have HI := Lib.hid (fun W => Tryz.stringslite_Index_one s c W)
  rcases cutN_index c (bl s) with ⟨h1, h2⟩ | ⟨i, h1, h2, h3⟩
  · have HX := Lib.hid (show ∀ b, cutV s c b = .returned (.tuple #[.string s, .string ⟨#[]⟩, .bool b]) from fun b => by rw [cutV, h2, str_bl]; rfl)
    rw [show Lib.indexByte s.data.toList c = -1 from h1] at HI
    clear h1 h2
    go_enter Tryz.func83, Tryz.ntmps83
    go_wp2_with (go_at_call 104; refine (HI.out _).mono ?_; rintro r w2 ⟨rfl, rfl⟩)
    go_ret3
    exact ⟨⟨_, (HX.out _).symm⟩, Below.refl _ _⟩
  · rw [bl_length] at h2
    have HX := Lib.hid (show ∀ b, cutV s c b = .returned (.tuple #[.string (s.extract 0 i), .string (s.extract (i + 1) s.size), .bool b]) from fun b => by rw [cutV, h3, ext_take, ext_drop])
    rw [show Lib.indexByte s.data.toList c = i from h1] at HI
    have i0 : (0 : Int) ≤ i := by omega
    have i1 : (i : Int) ≤ s.size := by omega
    have i2 : ((i : Int) + 1) ≤ s.size := by omega
    have i3 : IntKind.i64.wrap ((i : Int) + 1) = (i : Int) + 1 := IntWalk.i64_in _ (by omega)
    have i4 : (0 : Int) ≤ (i : Int) + 1 := by omega
    have i5 : ((i : Int) + 1).toNat = i + 1 := by omega
    clear h1 h2 h3
    go_enter Tryz.func83, Tryz.ntmps83
    go_upto_region 3 with (go_at_call 104; refine (HI.out _).mono ?_; rintro r w2 ⟨rfl, rfl⟩)
    refine wp_region_still_lit (by kernel_rfl) (by kernel_rfl) ?_
    change wpStill _ _ (World.drew _) (fun a' => Exit.then _ _ _ a' (World.drew _)) _ _
    iterate 12 still_step
    refine wpStill_nil ?_
    go_wp2
    go_ret3
    exact ⟨⟨_, (HX.out _).symm⟩, (Below.refl _ _).drew⟩
set_option maxHeartbeats 2000000 in
set_option maxRecDepth 100000 in
theorem cut_any (s : ByteArray) (c : UInt8) (w : World) (hs : s.size ≤ 1000000) : Calls Tryz.prog 60 #[.string s, .string ⟨#[c]⟩] w fun e w' => (∃ b, e = cutV s c b) ∧ Below w.heap.size w w' := by
  have HI := Lib.hid (cutIn_any s c w hs)
  unfold cutV at HI ⊢
  generalize str (cutN c (bl s)).1 = x at *
  generalize str (cutN c (bl s)).2 = y at *
  go_enter Tryz.func60, Tryz.ntmps60
  go_wp2_with (go_at_call 83; refine HI.out.mono ?_; rintro r w2 ⟨⟨b, rfl⟩, hb2⟩)
  go_ret3
  exact ⟨⟨b, rfl⟩, hb2⟩

theorem patoi_any (s : ByteArray) (w : World) (hK : Kw w) (hs : s.size ≤ 1000000) : Calls Tryz.prog 87 #[.string s] w fun e w' => (∃ ev, e = .returned (.tuple #[.int .i64 (atoiN (bl s)), ev])) ∧ Below w.heap.size w w' := by
  have hx : atoiN (bl s) = match Lib.atoiAll s.data.toList with | .ok v => v | Lib.NumEnd.syntax => 0 | .range => Lib.atoiSat s.data.toList := rfl
  have h3 : ∀ r : Lib.NumEnd Int, (∃ v, r = .ok v) ∨ r = Lib.NumEnd.syntax ∨ r = .range := by
    intro r
    cases r
    · exact .inl ⟨_, rfl⟩
    · exact .inr (.inl rfl)
    · exact .inr (.inr rfl)
  rcases h3 (Lib.atoiAll s.data.toList) with ⟨v, h⟩ | h | h
  · rw [h] at hx
    refine (Tryz.strconv_Atoi_ok s (by omega) v h w).mono ?_
    rintro e w' ⟨rfl, hw⟩
    refine ⟨⟨_, by rw [hx]⟩, ?_⟩
    rcases hw with rfl | ⟨t, rfl⟩
    · exact Below.refl _ _
    · exact Lib.bytesWorld_below w 5 t
  · rw [h] at hx
    obtain ⟨t, p, hc⟩ := hK.bad
    refine (Tryz.strconv_Atoi_syntax s (by omega) h _ w hc (.inr ⟨t, p, rfl⟩)).mono ?_
    rintro e w' ⟨N, rfl, _, _, hb⟩
    exact ⟨⟨_, by rw [hx]⟩, hb⟩
  · rw [h] at hx
    obtain ⟨t, p, hc⟩ := hK.far
    refine (Tryz.strconv_Atoi_range s (by omega) h _ w hc (.inr ⟨t, p, rfl⟩)).mono ?_
    rintro e w' ⟨N, rfl, _, _, hb⟩
    exact ⟨⟨_, by rw [hx]⟩, hb⟩

set_option maxHeartbeats 2000000 in
set_option maxRecDepth 100000 in
theorem who_any (s : ByteArray) (w : World) (hK : Kw w) (hs : s.size ≤ 100000) : Calls Tryz.prog 65 #[.string s] w fun e w' => e = .returned (.tuple #[.string (whoL s).1, .int .i64 (whoL s).2]) ∧ Below w.heap.size w w' := by
  have HL := Lib.hid (fun W => show Calls Tryz.prog 86 #[.string s, .string ⟨#[32]⟩] W fun e w' => e = .returned (.int .i64 (Lib.lastIndexByte s 32)) ∧ w' = W from Tryz.strings_LastIndex_one s ⟨#[32]⟩ rfl (by omega) W)
  rcases Lib.lastIndexByte_spec s 32 with ⟨h1, _⟩ | ⟨i, hi, h1, _, _⟩
  · have HX := Lib.hid (show whoL s = (⟨#[]⟩, 0) from by rw [whoL, if_pos (by omega)])
    rw [HX.out]
    rw [h1] at HL
    clear h1 hK
    go_enter Tryz.func65, Tryz.ntmps65
    go_wp2_with (go_at_call 86; refine (HL.out _).mono ?_; rintro r w2 ⟨rfl, rfl⟩)
    go_ret2
    exact ⟨rfl, Below.refl _ _⟩
  · have HX := Lib.hid (show whoL s = (s.extract 0 i, atoiN (bl (s.extract (i + 1) s.size))) from by rw [whoL, if_neg (by omega), h1, Int.toNat_natCast, ext_take, ext_drop, bl_str])
    rw [HX.out]
    rw [h1] at HL
    have HA := Lib.hid (fun W hk => patoi_any (s.extract (i + 1) s.size) W hk (by rw [ByteArray.size_extract]; omega))
    have HK := Lib.hid hK
    have i0 : (0 : Int) ≤ i := by omega
    have i1 : (i : Int) ≤ s.size := by omega
    have i2 : ((i : Int) + 1) ≤ s.size := by omega
    have i3 : IntKind.i64.wrap ((i : Int) + 1) = (i : Int) + 1 := IntWalk.i64_in _ (by omega)
    have i4 : (0 : Int) ≤ (i : Int) + 1 := by omega
    have i5 : ((i : Int) + 1).toNat = i + 1 := by omega
    have i6 : ¬ (i : Int) < 0 := by omega
    clear h1 hi hK
    generalize atoiN (bl (s.extract (i + 1) s.size)) = n at *
    go_enter Tryz.func65, Tryz.ntmps65
    go_wp2_with (first
      | (go_at_call 86; refine (HL.out _).mono ?_; rintro r w2 ⟨rfl, rfl⟩)
      | (go_at_call 87; refine (HA.out _ HK.out).mono ?_; rintro r w3 ⟨⟨ev, rfl⟩, hb3⟩))
    go_ret2
    exact ⟨rfl, hb3⟩
end Go.Proofs.YtapjgdhdgpakhaaGreatDoor.Hj
