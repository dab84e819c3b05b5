/-
  Layer 9: the program follows steps; its Apply.
-/
import Derived.Test.YtcgaofndckiddaaEe
import Derived.Test.YtcgaofndckiddaaEc
import Derived.Laws.MakeOwn
import Derived.StillTailTactics
namespace Go.Proofs.Ytcgaofndckiddaa.He
open Go.RowKit Hg
set_option linter.unusedVariables false

theorem run_app_str2 {w : World} {B : Nat} {v : Value} {l : List UInt8} (h : Own w B v l) (hB : B ≤ w.heap.size) (s : ByteArray) (hl : l.length + s.size ≤ 100000000) (ty : TypeId) :
    ∃ v' w', (Builtin.append_ #[36, 9] ty #[v, .string s]).run Try.prog w = .ok v' w' ∧ Own w' B v' (l ++ bl s) ∧ w.grownBy w' v.ownBlock := by
  obtain ⟨i0, hi0, hz0, hz1, hz2⟩ := info_parts Try.info5
  obtain ⟨v', w', h1, h2, h3, _⟩ := Lib.run_append_own_string (P := Try.prog) w B 36 9 ty 5 i0 Try.underlying36 Try.underlying9 hi0 hz0 hz1 hz2 v l.length _ h s (by unfold maxLen; omega) (by omega) hB
  refine ⟨v', w', h1, ?_, h3⟩
  unfold Own
  rw [List.length_append, List.map_append, bl_length]
  exact h2
theorem wpList_app_str2 {w : World} {B : Nat} {v : Value} {l : List UInt8} {ops : Array Oper} {rest : List Oper} {o : Oper} {a : Act} {Q : Exit → Act → World → Prop} (hgd : o.guard = none) (sl x : Operand)
    (ho : o.op = .call { callee := .builtin .append, args := #[sl, x], argTypes := #[36, 9] }) (hs : a.eval sl = v) (h : Own w B v l) (hB : B ≤ w.heap.size) (s : ByteArray) (hx : a.eval x = .string s) (hl : l.length + s.size ≤ 100000000)
    (hK : ∀ v' w', Own w' B v' (l ++ bl s) → w.grownBy w' v.ownBlock → wpList Try.prog ops Q rest (a.put o.dst v') w') : wpList Try.prog ops Q (o :: rest) a w := by
  refine wpList_plain hgd fun K hK' => ?_
  obtain ⟨v', w', hr, h2, h3⟩ := run_app_str2 h hB s hl o.type
  unfold Oper.wp execOp
  simp only [ho, resolve, invoke, builtin, Sem.run_bind, Sem.run_pure, Result.andThen_ok, List.map_toArray, List.map_cons, List.map_nil, hs, hx, hr]
  exact hK' _ _ (hK v' w' h2 h3)
theorem make_any (w : World) (c : Nat) (hc : c ≤ 100000) : ∃ w', (Instr.makeSlice 36 (.int .i64 0) (.int .i64 (c : Int))).run Try.prog w = .ok (.slice (some ⟨w.heap.size, 0, none⟩) 0 c) w' ∧ Own w' w.heap.size (.slice (some ⟨w.heap.size, 0, none⟩) 0 c) [] ∧ Below w.heap.size w w' := by
  obtain ⟨i0, hi0, hz0, hz1, hz2⟩ := info_parts Try.info5
  obtain ⟨w', h1, h2, h3⟩ := run_makeSlice_owned (P := Try.prog) w w.heap.size 36 5 i0 (.int .u8 0) 1 Try.underlying36 hi0 hz0 hz1 .i64 .i64 c (by omega) (by rw [hz2]; omega) (by unfold maxLen; omega) (Nat.le_refl _)
  exact ⟨w', h1, h2, (Below.refl _ w).grown h3 (Nat.le_refl _) (fun k hk => by cases hk)⟩

/-- what the first step is to read and piece -/
theorem step_cases (R b : ByteArray) (M k : Nat) (h0 : 0 < R.size) (hR : R.size ≤ 2000) (hb : b.size ≤ 2000) :
    (∃ e : Int, (e == 0) = false ∧ Df.code (bl b) M k (bl R) = e ∧ e ≠ 0 ∧ ∀ w, Calls Try.prog 16 #[.string R] w fun r w' => r = .returned (.tuple #[.agg #[.int .u8 0, .int .i64 0, .int .i64 0, .string ByteArray.empty, .int .i64 0], .int .i64 e]) ∧ Below w.heap.size w w') ∨
    (∃ (c p n z : Nat) (told X : ByteArray) (ok : Bool), z ≤ R.size ∧ 5 ≤ z ∧ X.size ≤ 2000 ∧
      (∀ w, Calls Try.prog 16 #[.string R] w fun r w' => r = .returned (.tuple #[.agg #[.int .u8 c, .int .i64 p, .int .i64 n, .string told, .int .i64 z], .int .i64 0]) ∧ Below w.heap.size w w') ∧
      (∀ w, Calls Try.prog 17 #[.agg #[.int .u8 c, .int .i64 p, .int .i64 n, .string told, .int .i64 z], .string b] w fun r w' => r = .returned (.tuple #[.string X, .bool ok]) ∧ Below w.heap.size w w') ∧
      ((ok = false ∧ Df.code (bl b) M k (bl R) = 3) ∨ (ok = true ∧ M < k + X.size ∧ Df.code (bl b) M k (bl R) = 3) ∨
        (ok = true ∧ ¬ M < k + X.size ∧ Df.code (bl b) M k (bl R) = 0 ∧ Df.says (bl b) (bl R) = bl X ∧ (bl R).drop (Df.size (bl R)) = bl (R.extract z R.size)))) := by
  have hg : (bl R).getD 0 0 = R[0] := bl_getD R 0 h0
  have hlen := bl_length R
  by_cases h1 : R[0].toNat = 1
  · have hg1 : ((bl R).getD 0 0).toNat = 1 := by rw [hg]; exact h1
    by_cases h9 : R.size < 9
    · left
      refine ⟨2, rfl, Df.one_short hg1 (by omega), by decide, fun w => ?_⟩
      by_cases h5 : R.size < 5
      · exact read_short0 R w h0 (.inl h1) h5
      · exact read_short1 R w h0 h1 h5 h9 (by omega)
    · right
      have hnl : ¬ (bl R).length < 9 := by omega
      have hrd := fun w => read_one R w h0 h1 h9 (by omega)
      have hd : (bl R).drop (Df.size (bl R)) = bl (R.extract 9 R.size) := by rw [Df.one_size hg1, bl_drop]
      have hsy := Df.one_says (b := bl b) hg1
      obtain ⟨p, hp⟩ : ∃ p, Df.num ((bl R).drop 1) = p := ⟨_, rfl⟩
      obtain ⟨n, hn⟩ : ∃ n, Df.num ((bl R).drop 5) = n := ⟨_, rfl⟩
      rw [hp, hn] at hrd hsy
      by_cases hn0 : n = 0
      · exact ⟨1, p, n, 9, ByteArray.empty, ByteArray.empty, false, by omega, by omega, Nat.zero_le _, hrd, fun w => piece_none 1 p n 9 _ b w hn0, .inl ⟨rfl, Df.one_form hg1 hnl (.inl (by rw [hn]; exact hn0))⟩⟩
      · by_cases hf : b.size < p + n
        · exact ⟨1, p, n, 9, ByteArray.empty, ByteArray.empty, false, by omega, by omega, Nat.zero_le _, hrd, fun w => piece_far 1 p n 9 _ b w hn0 rfl hf (by omega), .inl ⟨rfl, Df.one_form hg1 hnl (.inr (.inl (by rw [hp, hn, bl_length]; exact hf)))⟩⟩
        · have hxs : (b.extract p (p + n)).size = n := by rw [ByteArray.size_extract]; omega
          refine ⟨1, p, n, 9, ByteArray.empty, b.extract p (p + n), true, by omega, by omega, by omega, hrd, fun w => piece_base 1 p n 9 _ b w hn0 rfl hf (by omega), .inr ?_⟩
          by_cases hm : M < k + n
          · exact .inl ⟨rfl, by rw [hxs]; exact hm, Df.one_form hg1 hnl (.inr (.inr (by rw [hn]; exact hm)))⟩
          · exact .inr ⟨rfl, by rw [hxs]; exact hm, Df.one_good hg1 hnl (by rw [hp, hn, bl_length]; omega), by rw [hsy, bl_mid], hd⟩
  · by_cases h2 : R[0].toNat = 2
    · have hg2 : ((bl R).getD 0 0).toNat = 2 := by rw [hg]; exact h2
      obtain ⟨n, hn⟩ : ∃ n, Df.num ((bl R).drop 1) = n := ⟨_, rfl⟩
      by_cases h5 : R.size < 5
      · left
        exact ⟨2, rfl, Df.two_short hg2 (.inl (by omega)), by decide, fun w => read_short0 R w h0 (.inr h2) h5⟩
      · by_cases hz : R.size < 5 + n
        · left
          exact ⟨2, rfl, Df.two_short hg2 (.inr (by omega)), by decide, fun w => read_short2 R w h0 h2 h5 (by rw [hn]; exact hz) (by omega)⟩
        · right
          have hnl : ¬ ((bl R).length < 5 ∨ (bl R).length < 5 + Df.num ((bl R).drop 1)) := by omega
          have hrd := fun w => read_two R w h0 h2 h5 (by rw [hn]; exact hz) (by omega)
          have hd : (bl R).drop (Df.size (bl R)) = bl (R.extract (5 + n) R.size) := by rw [Df.two_size hg2, bl_drop, hn]
          have hsy := Df.two_says (b := bl b) hg2
          rw [hn] at hrd hsy
          by_cases hn0 : n = 0
          · exact ⟨2, 0, n, 5 + n, R.extract 5 (5 + n), ByteArray.empty, false, by omega, by omega, Nat.zero_le _, hrd, fun w => piece_none 2 0 n (5 + n) _ b w hn0, .inl ⟨rfl, Df.two_form hg2 hnl (.inl (by rw [hn]; exact hn0))⟩⟩
          · have hxs : (R.extract 5 (5 + n)).size = n := by rw [ByteArray.size_extract]; omega
            refine ⟨2, 0, n, 5 + n, R.extract 5 (5 + n), R.extract 5 (5 + n), true, by omega, by omega, by omega, hrd, fun w => piece_told 2 0 n (5 + n) _ b w hn0 rfl, .inr ?_⟩
            by_cases hm : M < k + n
            · exact .inl ⟨rfl, by rw [hxs]; exact hm, Df.two_form hg2 hnl (.inr (by rw [hn]; exact hm))⟩
            · exact .inr ⟨rfl, by rw [hxs]; exact hm, Df.two_good hg2 hnl (by rw [hn]; omega), by rw [hsy, bl_mid], hd⟩
    · left
      exact ⟨3, rfl, Df.no_kind (by rw [hg]; exact h1) (by rw [hg]; exact h2), by decide, fun w => read_kind R w h0 h1 h2⟩

/-- a text as far as it is made -/
structure Fol (w wr : World) (b s : ByteArray) (M : Nat) (R : ByteArray) (v : Value) (t : List UInt8) : Prop where
  own : Own wr w.heap.size v t
  below : Below w.heap.size w wr
  small : t.length ≤ M
  room : t.length + 2000 * R.size ≤ 2000 * s.size
  goes : Df.goF (bl b) M [] (bl s) = Df.goF (bl b) M t (bl R)
theorem bl_ne (R : ByteArray) (h : 0 < R.size) : bl R ≠ [] := by
  intro e
  have := congrArg List.length e
  rw [bl_length, List.length_nil] at this
  omega
end Go.Proofs.Ytcgaofndckiddaa.He
