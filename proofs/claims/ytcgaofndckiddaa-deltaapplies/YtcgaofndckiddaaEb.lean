/-
  Layer 9: a number that bytes begin with, in the program and the document; how long what a delta makes is.
-/
import Derived.Test.YtcgaofndckiddaaGc
import Derived.Test.YtcgaofndckiddaaEa
import Derived.BigRegion
import Derived.Laws.BitsAllLaws
namespace Go.Proofs.Ytcgaofndckiddaa.He
open Go.RowKit Hg
set_option linter.unusedVariables false

theorem num_at (s : ByteArray) (k : Nat) (h : k + 4 ≤ s.size) : Df.num ((bl s).drop k) = ((s[k].toNat * 256 + s[k + 1].toNat) * 256 + s[k + 2].toNat) * 256 + s[k + 3].toNat := by
  unfold Df.num
  rw [getD_at s k 0 (by omega), getD_at s k 1 (by omega), getD_at s k 2 (by omega), getD_at s k 3 (by omega)]
  rfl
theorem or_hi (x y i : Nat) (hy : y < 2 ^ i) (h : x * 2 ^ i + y < 9223372036854775808) : bits .or .i64 ((x * 2 ^ i : Nat) : Int) (y : Int) = ((x * 2 ^ i + y : Nat) : Int) := by
  show IntKind.i64.wrap ((BitVec.ofInt 64 (((x * 2 ^ i : Nat) : Int)) ||| BitVec.ofInt 64 (y : Int)).toNat : Int) = _
  have e : x * 2 ^ i ||| y = x * 2 ^ i + y := by
    have := Nat.two_pow_add_eq_or_of_lt (b := y) (i := i) hy x
    rw [Nat.mul_comm x, ← this]
  rw [BitVec.toNat_or, ofInt_u64 (x * 2 ^ i) (by omega), ofInt_u64 y (by omega), e, IntWalk.i64_in _ (by omega)]
theorem or_four {a b c d : Nat} (ha : a < 256) (hb : b < 256) (hc : c < 256) (hd : d < 256) :
    bits .or .i64 (bits .or .i64 (bits .or .i64 (IntKind.i64.wrap ((a : Int) * 16777216)) (IntKind.i64.wrap ((b : Int) * 65536))) (IntKind.i64.wrap ((c : Int) * 256))) (d : Int) = ((((a * 256 + b) * 256 + c) * 256 + d : Nat) : Int) := by
  have e1 : IntKind.i64.wrap ((a : Int) * 16777216) = ((a * 2 ^ 24 : Nat) : Int) := (IntWalk.i64_in _ (by omega)).trans (by omega)
  have e2 : IntKind.i64.wrap ((b : Int) * 65536) = ((b * 65536 : Nat) : Int) := (IntWalk.i64_in _ (by omega)).trans (by omega)
  have e3 : IntKind.i64.wrap ((c : Int) * 256) = ((c * 256 : Nat) : Int) := (IntWalk.i64_in _ (by omega)).trans (by omega)
  rw [e1, e2, e3, or_hi a (b * 65536) 24 (by omega) (by omega), show a * 2 ^ 24 + b * 65536 = (a * 256 + b) * 2 ^ 16 by omega, or_hi _ (c * 256) 16 (by omega) (by omega),
    show (a * 256 + b) * 2 ^ 16 + c * 256 = ((a * 256 + b) * 256 + c) * 2 ^ 8 by omega, or_hi _ d 8 (by omega) (by omega)]
theorem bytesz (c : UInt8) : c.toNat < 256 := c.toNat_lt

set_option maxHeartbeats 2000000 in
set_option maxRecDepth 100000 in
theorem get_any (s : ByteArray) (k : Nat) (w : World) (hk : k + 4 ≤ s.size) (hs : s.size ≤ 100000) :
    Calls Try.prog 12 #[.string s, .int .i64 k] w fun e w' => e = .returned (.int .i64 (Df.num ((bl s).drop k))) ∧ Below w.heap.size w w' := by
  obtain ⟨k1, hk1⟩ : ∃ k1, k + 1 = k1 := ⟨_, rfl⟩
  obtain ⟨k2, hk2⟩ : ∃ k2, k + 2 = k2 := ⟨_, rfl⟩
  obtain ⟨k3, hk3⟩ : ∃ k3, k + 3 = k3 := ⟨_, rfl⟩
  have hx0 : k < s.size := by omega
  have hx1 : k1 < s.size := by omega
  have hx2 : k2 < s.size := by omega
  have hx3 : k3 < s.size := by omega
  have hN : Df.num ((bl s).drop k) = ((s[k].toNat * 256 + s[k1].toNat) * 256 + s[k2].toNat) * 256 + s[k3].toNat := by subst hk1 hk2 hk3; exact num_at s k hk
  have i0 : (k : Int) < s.size := by omega
  have i1 : (k1 : Int) < s.size := by omega
  have i2 : (k2 : Int) < s.size := by omega
  have i3 : (k3 : Int) < s.size := by omega
  have z0 : (0 : Int) ≤ k := by omega
  have z1 : (0 : Int) ≤ k1 := by omega
  have z2 : (0 : Int) ≤ k2 := by omega
  have z3 : (0 : Int) ≤ k3 := by omega
  have w1 : IntKind.i64.wrap ((k : Int) + 1) = k1 := (IntWalk.i64_in _ (by omega)).trans (by omega)
  have w2 : IntKind.i64.wrap ((k : Int) + 2) = k2 := (IntWalk.i64_in _ (by omega)).trans (by omega)
  have w3 : IntKind.i64.wrap ((k : Int) + 3) = k3 := (IntWalk.i64_in _ (by omega)).trans (by omega)
  have ya := bytesz s[k]
  have yb := bytesz s[k1]
  have yc := bytesz s[k2]
  have yd := bytesz s[k3]
  obtain ⟨a, ha⟩ : ∃ a, s[k].toNat = a := ⟨_, rfl⟩
  obtain ⟨b, hb⟩ : ∃ b, s[k1].toNat = b := ⟨_, rfl⟩
  obtain ⟨c, hc⟩ : ∃ c, s[k2].toNat = c := ⟨_, rfl⟩
  obtain ⟨d, hd⟩ : ∃ d, s[k3].toNat = d := ⟨_, rfl⟩
  have ai : (s[k].toNat : Int) = a := by rw [ha]
  have bi : (s[k1].toNat : Int) = b := by rw [hb]
  have ci : (s[k2].toNat : Int) = c := by rw [hc]
  have di : (s[k3].toNat : Int) = d := by rw [hd]
  rw [ha, hb, hc, hd] at hN
  rw [ha] at ya
  rw [hb] at yb
  rw [hc] at yc
  rw [hd] at yd
  have e1 : IntKind.i64.wrap (a : Int) = a := IntWalk.i64_in _ (by omega)
  have e2 : IntKind.i64.wrap (b : Int) = b := IntWalk.i64_in _ (by omega)
  have e3 : IntKind.i64.wrap (c : Int) = c := IntWalk.i64_in _ (by omega)
  have e4 : IntKind.i64.wrap (d : Int) = d := IntWalk.i64_in _ (by omega)
  obtain ⟨p, hp⟩ : ∃ p, a * 256 + b = p := ⟨_, rfl⟩
  obtain ⟨q, hq⟩ : ∃ q, p * 256 + c = q := ⟨_, rfl⟩
  obtain ⟨r, hr⟩ : ∃ r, q * 256 + d = r := ⟨_, rfl⟩
  rw [hp, hq, hr] at hN
  have f1 : IntKind.i64.wrap ((a : Int) * 256) = (a : Int) * 256 := IntWalk.i64_in _ (by omega)
  have f2 : IntKind.i64.wrap ((p : Int) * 256) = (p : Int) * 256 := IntWalk.i64_in _ (by omega)
  have f3 : IntKind.i64.wrap ((q : Int) * 256) = (q : Int) * 256 := IntWalk.i64_in _ (by omega)
  have g1 : IntKind.i64.wrap ((a : Int) * 256 + b) = p := (IntWalk.i64_in _ (by omega)).trans (by omega)
  have g2 : IntKind.i64.wrap ((p : Int) * 256 + c) = q := (IntWalk.i64_in _ (by omega)).trans (by omega)
  have g3 : IntKind.i64.wrap ((q : Int) * 256 + d) = r := (IntWalk.i64_in _ (by omega)).trans (by omega)
  have HN := Lib.hid hN
  clear hN hp hq hr ha hb hc hd ya yb yc yd hk1 hk2 hk3
  go_enter Try.func12, Try.ntmps12
  go_wp2_with fail
  refine wp_region_still_lit (by kernel_rfl) (by kernel_rfl) ?_
  change wpStill _ _ (World.drew _) (fun a' => Exit.then _ _ _ a' (World.drew _)) _ _
  iterate 26 ((with_reducible refine wpStill_step ?_); intro K hK; go_simp; refine hK _ ?_; clear hK K)
  refine wpStill_nil ?_
  go_wp2
  go_ret
  exact ⟨by rw [HN.out]; rfl, (Below.refl _ _).drew⟩

/-- what Size answers -/
def two (r : Int × Int) : Value := .tuple #[.int .i64 r.1, .int .i64 r.2]
theorem two_mk {r : Int × Int} {a c : Int} (h : r = (a, c)) : Ending.returned (.tuple #[.int .i64 a, .int .i64 c]) = .returned (two r) := by rw [h]; rfl

set_option maxHeartbeats 2000000 in
set_option maxRecDepth 100000 in
theorem rsize_any (s : ByteArray) (w : World) (hs : s.size ≤ 100000) :
    Calls Try.prog 8 #[.string s] w fun e w' => e = .returned (two (Df.sizeF (bl s))) ∧ Below w.heap.size w w' := by
  by_cases h : s.size < 8
  · have HE := Lib.hid (show Df.sizeF (bl s) = (0, 2) by unfold Df.sizeF; rw [if_pos (by rw [bl_length]; exact h)])
    have hi : (s.size : Int) < 8 := by omega
    clear h
    go_enter Try.func8, Try.ntmps8
    go_wp2
    go_ret2
    exact ⟨two_mk HE.out, Below.refl _ _⟩
  · have HE := Lib.hid (show Df.sizeF (bl s) = ((Df.num ((bl s).drop 4) : Int), 0) by unfold Df.sizeF; rw [if_neg (by rw [bl_length]; exact h)])
    have hi : ¬ (s.size : Int) < 8 := by omega
    have HG := Lib.hid (get_any s 4 w (by omega) hs)
    clear h
    go_enter Try.func8, Try.ntmps8
    go_wp2_with (go_at_call 12; refine HG.out.mono ?_; rintro e w2 ⟨rfl, hb2⟩)
    go_ret2
    exact ⟨two_mk HE.out, hb2⟩

set_option maxHeartbeats 2000000 in
set_option maxRecDepth 100000 in
theorem number_any (s : ByteArray) (w : World) (h4 : 4 ≤ s.size) (hs : s.size ≤ 100000) :
    Calls Try.prog 10 #[.string s] w fun e w' => e = .returned (.int .i64 (Df.num (bl s))) ∧ Below w.heap.size w w' := by
  have hx0 : 0 < s.size := by omega
  have hx1 : 1 < s.size := by omega
  have hx2 : 2 < s.size := by omega
  have hx3 : 3 < s.size := by omega
  have i0 : (0 : Int) < s.size := by omega
  have i1 : (1 : Int) < s.size := by omega
  have i2 : (2 : Int) < s.size := by omega
  have i3 : (3 : Int) < s.size := by omega
  have hN : Df.num (bl s) = ((s[0].toNat * 256 + s[1].toNat) * 256 + s[2].toNat) * 256 + s[3].toNat := num_at s 0 (by omega)
  have ya := bytesz s[0]
  have yb := bytesz s[1]
  have yc := bytesz s[2]
  have yd := bytesz s[3]
  obtain ⟨a, ha⟩ : ∃ a, s[0].toNat = a := ⟨_, rfl⟩
  obtain ⟨b, hb⟩ : ∃ b, s[1].toNat = b := ⟨_, rfl⟩
  obtain ⟨c, hc⟩ : ∃ c, s[2].toNat = c := ⟨_, rfl⟩
  obtain ⟨d, hd⟩ : ∃ d, s[3].toNat = d := ⟨_, rfl⟩
  have ai : (s[0].toNat : Int) = a := by rw [ha]
  have bi : (s[1].toNat : Int) = b := by rw [hb]
  have ci : (s[2].toNat : Int) = c := by rw [hc]
  have di : (s[3].toNat : Int) = d := by rw [hd]
  rw [ha, hb, hc, hd] at hN
  rw [ha] at ya
  rw [hb] at yb
  rw [hc] at yc
  rw [hd] at yd
  have e1 : IntKind.i64.wrap (a : Int) = a := IntWalk.i64_in _ (by omega)
  have e2 : IntKind.i64.wrap (b : Int) = b := IntWalk.i64_in _ (by omega)
  have e3 : IntKind.i64.wrap (c : Int) = c := IntWalk.i64_in _ (by omega)
  have e4 : IntKind.i64.wrap (d : Int) = d := IntWalk.i64_in _ (by omega)
  have HN := Lib.hid hN
  clear hN ha hb hc hd
  go_enter Try.func10, Try.ntmps10
  go_wp2_with fail
  refine wp_region_still_lit (by kernel_rfl) (by kernel_rfl) ?_
  change wpStill _ _ (World.drew _) (fun a' => Exit.then _ _ _ a' (World.drew _)) _ _
  iterate 19 ((with_reducible refine wpStill_step ?_); intro K hK; go_simp; refine hK _ ?_; clear hK K)
  refine wpStill_nil ?_
  go_wp2
  go_ret
  exact ⟨by rw [HN.out]; exact congrArg (fun z => Ending.returned (Value.int .i64 z)) (or_four ya yb yc yd), (Below.refl _ _).drew⟩

set_option maxHeartbeats 2000000 in
set_option maxRecDepth 100000 in
theorem size_any (s : ByteArray) (w : World) (hs : s.size ≤ 100000) :
    Calls Try.prog 7 #[.string s] w fun e w' => e = .returned (two (Df.sizeF (bl s))) ∧ Below w.heap.size w w' := by
  by_cases h : s.size < 8
  · have HE := Lib.hid (show Df.sizeF (bl s) = (0, 2) by unfold Df.sizeF; rw [if_pos (by rw [bl_length]; exact h)])
    have hi : (s.size : Int) < 8 := by omega
    clear h
    go_enter Try.func7, Try.ntmps7
    go_wp2
    go_ret2
    exact ⟨two_mk HE.out, Below.refl _ _⟩
  · have HE := Lib.hid (show Df.sizeF (bl s) = ((Df.num ((bl s).drop 4) : Int), 0) by unfold Df.sizeF; rw [if_neg (by rw [bl_length]; exact h)])
    have hi : ¬ (s.size : Int) < 8 := by omega
    have hsl := slice_from s 4 4 rfl (by omega)
    have hX := bl_drop s 4
    have hXs : (s.extract 4 s.size).size = s.size - 4 := by rw [ByteArray.size_extract]; omega
    generalize s.extract 4 s.size = X at *
    have HG := Lib.hid (number_any X w (by omega) (by omega))
    rw [hX] at HG
    clear h hX hXs
    go_enter Try.func7, Try.ntmps7
    go_wp2_with (go_at_call 10; refine HG.out.mono ?_; rintro e w2 ⟨rfl, hb2⟩)
    go_ret2
    exact ⟨two_mk HE.out, hb2⟩
end Go.Proofs.Ytcgaofndckiddaa.He
