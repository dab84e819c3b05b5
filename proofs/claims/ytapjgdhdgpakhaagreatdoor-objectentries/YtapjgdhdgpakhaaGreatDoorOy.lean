/-
  Layer 11, the program's side: names of entries, tags and persons, by the library's ContainsAny, ContainsFunc and ContainsRune at any text.
-/
import Derived.Test.YtapjgdhdgpakhaaGreatDoorOv
import Derived.Test.YtapjgdhdgpakhaaGreatDoorOw
import Derived.Test.YtapjgdhdgpakhaaGreatDoorLay
import Derived.Laws.RangeString
import Derived.Laws.RangeAny
import Derived.Laws.Runes
import Derived.WalkMore
import Derived.StillTailTactics
namespace Go.Proofs.YtapjgdhdgpakhaaGreatDoor.Hj
open Go.RowKit Ob
set_option linter.unusedVariables false

theorem encode_far {r : Int} (h0 : 128 ≤ r) (h1 : r ≤ 1114111) : (∃ a b : UInt8, Utf8.encode r = ⟨#[a, b]⟩ ∧ 128 ≤ b.toNat) ∨ (∃ a c b : UInt8, Utf8.encode r = ⟨#[a, c, b]⟩ ∧ 128 ≤ b.toNat) ∨ (∃ a c d b : UInt8, Utf8.encode r = ⟨#[a, c, d, b]⟩ ∧ 128 ≤ b.toNat) := by
  have hc : ∃ c : Nat, (if Utf8.valid r = true then r.toNat else Utf8.runeError) = c ∧ 128 ≤ c ∧ c ≤ 1114111 := by
    refine ⟨_, rfl, ?_⟩
    split
    · omega
    · decide
  obtain ⟨c, hc, h2, h3⟩ := hc
  have low : ∀ x, 128 ≤ (UInt8.ofNat (128 + x % 64)).toNat := fun x => by rw [UInt8.toNat_ofNat', Nat.mod_eq_of_lt (by omega)]; omega
  unfold Utf8.encode
  rw [hc]
  simp only
  by_cases k1 : c < 128
  · omega
  · rw [if_neg k1]
    by_cases k2 : c < 2048
    · rw [if_pos k2]; exact .inl ⟨_, _, rfl, low _⟩
    · rw [if_neg k2]
      by_cases k3 : c < 65536
      · rw [if_pos k3]; exact .inr (.inl ⟨_, _, _, rfl, low _⟩)
      · rw [if_neg k3]; exact .inr (.inr ⟨_, _, _, _, rfl, low _⟩)
set_option maxHeartbeats 1000000 in
set_option maxRecDepth 100000 in
theorem validRune_any (r : Int) (w : World) (h0 : 128 ≤ r) (h1 : r ≤ 1114111) : Calls Tryz.prog 94 #[.int .i32 r] w fun e w' => e = .returned (.bool (decide (r < 55296) || decide (57343 < r))) ∧ w = w' := by
  have i0 : (0 : Int) ≤ r := by omega
  rcases (by omega : r < 55296 ∨ (¬ r < 55296 ∧ 57343 < r) ∨ (¬ r < 55296 ∧ ¬ 57343 < r)) with hv | ⟨hv, hv2⟩ | ⟨hv, hv2⟩
  · rw [decide_eq_true hv, Bool.true_or]
    go_enter Tryz.func94, Tryz.ntmps94
    go_wp2
    go_ret
    exact ⟨rfl, rfl⟩
  · rw [decide_eq_false hv, decide_eq_true hv2, Bool.false_or]
    go_enter Tryz.func94, Tryz.ntmps94
    go_wp2
    go_ret
    exact ⟨rfl, rfl⟩
  · rw [decide_eq_false hv, decide_eq_false hv2, Bool.false_or]
    go_enter Tryz.func94, Tryz.ntmps94
    go_wp2
    go_ret
    exact ⟨rfl, rfl⟩
theorem below_iter (w : World) (s : ByteArray) (p : Nat) : Below w.heap.size w (w.iter s p) := (Below.refl _ w).alloc (Nat.le_refl _) _
theorem index_far {l : List UInt8} {c : UInt8} (h : c ∉ l) : Lib.indexByte l c = -1 := by
  induction l with
  | nil => rfl
  | cons x r ih =>
    simp only [List.mem_cons, not_or] at h
    have hx : (x == c) = false := beq_eq_false_iff_ne.2 (Ne.symm h.1)
    rw [Lib.indexByte, ih h.2, hx]
    rfl
theorem far_drop {s : ByteArray} (ha : ∀ j (h : j < s.size), s[j].toNat < 128) {a b : Nat} {c : UInt8} (hc : 128 ≤ c.toNat) : c ∉ (s.extract a b).data.toList := by
  intro hm
  obtain ⟨i, hi, he⟩ := List.getElem_of_mem hm
  have hi2 : i < (s.extract a b).size := by rw [← bl_length]; exact hi
  have hs : (s.extract a b).size ≤ min b s.size - a := by rw [ByteArray.size_extract]; exact Nat.le_refl _
  have e : (s.extract a b)[i] = s[a + i]'(by omega) := by rw [ByteArray.getElem_extract]
  have e2 : (s.extract a b).data.toList[i] = (s.extract a b)[i] := by rw [Array.getElem_toList]; rfl
  rw [e2, e] at he
  have := ha (a + i) (by omega)
  rw [he] at this
  omega

theorem byteFar_any (s : ByteArray) (c : UInt8) (w : World) (h : c ∉ s.data.toList) : Calls Tryz.prog 93 #[.string s, .int .u8 c.toNat] w fun e w' => e = .returned (.int .i64 (-1)) ∧ w' = w := by
  refine (Tryz.strings_IndexByte s c.toNat w).mono ?_
  rintro e w' ⟨rfl, rfl⟩
  refine ⟨?_, rfl⟩
  have hc : ((c.toNat : Int)).toNat.toUInt8 = c := by simp
  rw [hc, index_far h]
set_option maxHeartbeats 4000000 in
set_option maxRecDepth 100000 in
theorem runeFar_any (s : ByteArray) (r : Int) (w : World) (h4 : s.size ≤ 100) (ha : ∀ j (h : j < s.size), s[j].toNat < 128) (h0 : 128 ≤ r) (h1 : r ≤ 1114111) :
    Calls Tryz.prog 75 #[.string s, .int .i32 r] w fun e w' => e = .returned (.int .i64 (-1)) ∧ Below w.heap.size w w' := by
  have HA := Lib.hid ha
  clear ha
  have i0 : (0 : Int) ≤ r := by omega
  have i1 : ¬ r < 128 := by omega
  by_cases hr : r = 65533
  · subst hr
    clear h0 h1
    go_enter Tryz.func75, Tryz.ntmps75
    go_wp2_with fail
    go_loopg [] s.size (fun g wx => ∃ i : Nat, i + g = s.size ∧ wx = w.iter s i)
    case atStart => exact ⟨0, by omega, rfl⟩
    case round =>
      obtain ⟨i, hig, rfl⟩ := hrel
      cases gk with
      | zero =>
        obtain rfl : i = s.size := by omega
        have hnx := fun ty => run_next_end (P := Tryz.prog) w s s.size ty (by omega)
        go_wp2
        go_ret
        exact ⟨rfl, below_iter w s _⟩
      | succ g =>
        have hi : i < s.size := by omega
        have hx := HA.out i hi
        have hnx := fun ty => run_next_ascii (P := Tryz.prog) w s i ty hi hx
        generalize s[i].toNat = x at *
        have hq : ((x : Int) == 65533) = false := beq_eq_false_iff_ne.2 (by omega)
        go_wp2
        go_roundg g
        case measure => omega
        case rel => exact ⟨i + 1, by omega, rfl⟩
  · have hq : (r == 65533) = false := beq_eq_false_iff_ne.2 hr
    clear hr
    have HV := Lib.hid (fun W => validRune_any r W h0 h1)
    cases hv : (decide (r < 55296) || decide (57343 < r)) with
    | false =>
      rw [hv] at HV
      clear h0 hv
      go_enter Tryz.func75, Tryz.ntmps75
      go_wp2_with (go_at_call 94; refine (HV.out _).mono ?_; rintro e w2 ⟨rfl, rfl⟩)
      go_ret
      exact ⟨rfl, Below.refl _ _⟩
    | true =>
      rw [hv] at HV
      rcases encode_far h0 h1 with ⟨a, b, hE, hb⟩ | ⟨a, c, b, hE, hb⟩ | ⟨a, c, d, b, hE, hb⟩
      · clear h0 hv
        go_enter Tryz.func75, Tryz.ntmps75
        go_wp2_with (go_at_call 94; refine (HV.out _).mono ?_; rintro e w2 ⟨rfl, rfl⟩)
        refine wp_scope_straight ?_
        go_wp2
        clear hE
        go_loopg [9, 10] 0 (fun g i f wr => i = .int .i64 1 ∧ f = .int .i64 0 ∧ Below w.heap.size w wr)
        case atStart => exact ⟨rfl, rfl, Below.refl _ _⟩
        case round =>
          obtain ⟨rfl, rfl, hbw⟩ := hrel
          have HBW := Lib.hid hbw
          clear hbw
          by_cases hlt : 1 < s.size
          · have h2 : (1 : Int) < s.size := by omega
            have h3 : (2 : Int) ≤ s.size := by omega
            have h4 : IntKind.i64.wrap (2 : Int) = 2 := by decide
            have hx := HA.out 1 hlt
            have HX := Lib.hid (fun W => byteFar_any (s.extract 2 s.size) b W (far_drop HA.out hb))
            have hne : ((s[1].toNat : Int) != (((⟨#[a, b]⟩ : ByteArray)[1]'(by simp [ByteArray.size])).toNat : Int)) = true := by rw [bne_iff_ne]; exact fun e => by have e2 : s[1].toNat = b.toNat := Int.ofNat.inj e; omega
            go_wp2
            refine wp_scope_straight ?_
            go_wp2
            refine wp_region_still_lit (by kernel_rfl) (by kernel_rfl) ?_
            change wpStill _ _ (World.drew _) (fun a' => Exit.then _ _ _ a' (World.drew _)) _ _
            iterate 7 still_step
            refine wpStill_nil ?_
            go_wp2
            refine wp_region_still_lit (by kernel_rfl) (by kernel_rfl) ?_
            change wpStill _ _ (World.drew _) (fun a' => Exit.then _ _ _ a' (World.drew _)) _ _
            iterate 7 still_step
            still_call (HX.out _)
            still_step
            refine wpStill_nil ?_
            go_wp2
            simp only [Exit.noGoto_ret, Exit.inBlock, Exit.then]
            go_ret
            exact ⟨rfl, HBW.out.drew.drew⟩
          · have h2 : ¬ (1 : Int) < s.size := by omega
            go_wp2
            go_ret
            exact ⟨rfl, HBW.out⟩
      · clear h0 hv
        go_enter Tryz.func75, Tryz.ntmps75
        go_wp2_with (go_at_call 94; refine (HV.out _).mono ?_; rintro e w2 ⟨rfl, rfl⟩)
        refine wp_scope_straight ?_
        go_wp2
        clear hE
        go_loopg [9, 10] 0 (fun g i f wr => i = .int .i64 2 ∧ f = .int .i64 0 ∧ Below w.heap.size w wr)
        case atStart => exact ⟨rfl, rfl, Below.refl _ _⟩
        case round =>
          obtain ⟨rfl, rfl, hbw⟩ := hrel
          have HBW := Lib.hid hbw
          clear hbw
          by_cases hlt : 2 < s.size
          · have h2 : (2 : Int) < s.size := by omega
            have h3 : (3 : Int) ≤ s.size := by omega
            have h4 : IntKind.i64.wrap (3 : Int) = 3 := by decide
            have hx := HA.out 2 hlt
            have HX := Lib.hid (fun W => byteFar_any (s.extract 3 s.size) b W (far_drop HA.out hb))
            have hne : ((s[2].toNat : Int) != (((⟨#[a, c, b]⟩ : ByteArray)[2]'(by simp [ByteArray.size])).toNat : Int)) = true := by rw [bne_iff_ne]; exact fun e => by have e2 : s[2].toNat = b.toNat := Int.ofNat.inj e; omega
            go_wp2
            refine wp_scope_straight ?_
            go_wp2
            refine wp_region_still_lit (by kernel_rfl) (by kernel_rfl) ?_
            change wpStill _ _ (World.drew _) (fun a' => Exit.then _ _ _ a' (World.drew _)) _ _
            iterate 7 still_step
            refine wpStill_nil ?_
            go_wp2
            refine wp_region_still_lit (by kernel_rfl) (by kernel_rfl) ?_
            change wpStill _ _ (World.drew _) (fun a' => Exit.then _ _ _ a' (World.drew _)) _ _
            iterate 7 still_step
            still_call (HX.out _)
            still_step
            refine wpStill_nil ?_
            go_wp2
            simp only [Exit.noGoto_ret, Exit.inBlock, Exit.then]
            go_ret
            exact ⟨rfl, HBW.out.drew.drew⟩
          · have h2 : ¬ (2 : Int) < s.size := by omega
            go_wp2
            go_ret
            exact ⟨rfl, HBW.out⟩
      · clear h0 hv
        go_enter Tryz.func75, Tryz.ntmps75
        go_wp2_with (go_at_call 94; refine (HV.out _).mono ?_; rintro e w2 ⟨rfl, rfl⟩)
        refine wp_scope_straight ?_
        go_wp2
        clear hE
        go_loopg [9, 10] 0 (fun g i f wr => i = .int .i64 3 ∧ f = .int .i64 0 ∧ Below w.heap.size w wr)
        case atStart => exact ⟨rfl, rfl, Below.refl _ _⟩
        case round =>
          obtain ⟨rfl, rfl, hbw⟩ := hrel
          have HBW := Lib.hid hbw
          clear hbw
          by_cases hlt : 3 < s.size
          · have h2 : (3 : Int) < s.size := by omega
            have h3 : (4 : Int) ≤ s.size := by omega
            have h4 : IntKind.i64.wrap (4 : Int) = 4 := by decide
            have hx := HA.out 3 hlt
            have HX := Lib.hid (fun W => byteFar_any (s.extract 4 s.size) b W (far_drop HA.out hb))
            have hne : ((s[3].toNat : Int) != (((⟨#[a, c, d, b]⟩ : ByteArray)[3]'(by simp [ByteArray.size])).toNat : Int)) = true := by rw [bne_iff_ne]; exact fun e => by have e2 : s[3].toNat = b.toNat := Int.ofNat.inj e; omega
            go_wp2
            refine wp_scope_straight ?_
            go_wp2
            refine wp_region_still_lit (by kernel_rfl) (by kernel_rfl) ?_
            change wpStill _ _ (World.drew _) (fun a' => Exit.then _ _ _ a' (World.drew _)) _ _
            iterate 7 still_step
            refine wpStill_nil ?_
            go_wp2
            refine wp_region_still_lit (by kernel_rfl) (by kernel_rfl) ?_
            change wpStill _ _ (World.drew _) (fun a' => Exit.then _ _ _ a' (World.drew _)) _ _
            iterate 7 still_step
            still_call (HX.out _)
            still_step
            refine wpStill_nil ?_
            go_wp2
            simp only [Exit.noGoto_ret, Exit.inBlock, Exit.then]
            go_ret
            exact ⟨rfl, HBW.out.drew.drew⟩
          · have h2 : ¬ (3 : Int) < s.size := by omega
            go_wp2
            go_ret
            exact ⟨rfl, HBW.out⟩

/-! ### a tag's name -/
theorem dashes (r : Nat) (h : r < 128) : decide (0 ≤ Lib.indexByte [46, 95, 45, 47] ((r : Int).toNat.toUInt8)) = decide (r = 46 ∨ r = 95 ∨ r = 45 ∨ r = 47) := by
  have hr : ((r : Int).toNat.toUInt8).toNat = r := by
    rw [Int.toNat_natCast, Nat.toUInt8, UInt8.toNat_ofNat', Nat.mod_eq_of_lt (by omega)]
  by_cases hm : ((r : Int).toNat.toUInt8) ∈ ([46, 95, 45, 47] : List UInt8)
  · have h2 : r = 46 ∨ r = 95 ∨ r = 45 ∨ r = 47 := by
      simp only [List.mem_cons, List.not_mem_nil, or_false] at hm
      rcases hm with e | e | e | e <;> rw [e] at hr <;> simp at hr <;> omega
    rw [decide_eq_true h2]
    rcases h2 with rfl | rfl | rfl | rfl <;> decide
  · rw [index_far hm]
    have h2 : ¬ (r = 46 ∨ r = 95 ∨ r = 45 ∨ r = 47) := by
      rintro (rfl | rfl | rfl | rfl) <;> exact hm (by decide)
    rw [decide_eq_false h2]
    rfl
set_option maxHeartbeats 1000000 in
set_option maxRecDepth 100000 in
theorem dash_any (r : Nat) (w : World) (h1 : r ≤ 1114111) : Calls Tryz.prog 38 #[.string ⟨#[46, 95, 45, 47]⟩, .int .i32 r] w fun e w' => e = .returned (.bool (decide (r = 46 ∨ r = 95 ∨ r = 45 ∨ r = 47))) ∧ Below w.heap.size w w' := by
  by_cases h : r < 128
  · refine (Tryz.strings_ContainsRune_ascii _ r w (by omega) (by omega)).mono ?_
    rintro e w' ⟨rfl, rfl⟩
    exact ⟨by rw [← dashes r h], Below.refl _ _⟩
  · have HX := Lib.hid (runeFar_any ⟨#[46, 95, 45, 47]⟩ r w (by decide) (fun j hj => by
      have hj4 : j < 4 := hj
      rcases (by omega : j = 0 ∨ j = 1 ∨ j = 2 ∨ j = 3) with rfl | rfl | rfl | rfl <;> exact of_decide_eq_true rfl) (by omega) (by omega))
    rw [decide_eq_false (by omega)]
    go_enter Tryz.func38, Tryz.ntmps38
    go_wp2_with (go_at_call 75; refine HX.out.mono ?_; rintro e w2 ⟨rfl, hb2⟩)
    go_ret
    exact ⟨rfl, hb2⟩

set_option maxHeartbeats 8000000 in
set_option maxRecDepth 100000 in
theorem tagRune_any (n : Nat) (w : World) (h1 : n ≤ 1114111) : Calls Tryz.prog 37 #[.int .i32 n] w fun e w' => e = .returned (.bool (!tagRune n)) ∧ Below w.heap.size w w' := by
  have HD := Lib.hid (dash_any n w h1)
  rw [tagRune]
  rcases tag_cases n with h | h | h | h | h | h | h | h | h | h | h | h
  all_goals
    first | rw [decide_eq_true (by omega : n = 46 ∨ n = 95 ∨ n = 45 ∨ n = 47)] at HD
          | rw [decide_eq_false (by omega : ¬ (n = 46 ∨ n = 95 ∨ n = 45 ∨ n = 47))] at HD
    first | rw [decide_eq_true (by omega : 97 ≤ n ∧ n ≤ 122 ∨ 65 ≤ n ∧ n ≤ 90 ∨ 48 ≤ n ∧ n ≤ 57 ∨ n = 46 ∨ n = 95 ∨ n = 45 ∨ n = 47)]
          | rw [decide_eq_false (by omega : ¬ (97 ≤ n ∧ n ≤ 122 ∨ 65 ≤ n ∧ n ≤ 90 ∨ 48 ≤ n ∧ n ≤ 57 ∨ n = 46 ∨ n = 95 ∨ n = 45 ∨ n = 47))]
    first | have d1 : (97 : Int) ≤ n := by omega
          | have d1 : ¬ (97 : Int) ≤ n := by omega
    first | have d2 : (n : Int) ≤ 122 := by omega
          | have d2 : ¬ (n : Int) ≤ 122 := by omega
    first | have d3 : (65 : Int) ≤ n := by omega
          | have d3 : ¬ (65 : Int) ≤ n := by omega
    first | have d4 : (n : Int) ≤ 90 := by omega
          | have d4 : ¬ (n : Int) ≤ 90 := by omega
    first | have d5 : (48 : Int) ≤ n := by omega
          | have d5 : ¬ (48 : Int) ≤ n := by omega
    first | have d6 : (n : Int) ≤ 57 := by omega
          | have d6 : ¬ (n : Int) ≤ 57 := by omega
    clear h
    go_enter Tryz.func37, Tryz.ntmps37
    go_wp2_with (go_at_call 38; refine HD.out.mono ?_; rintro e w2 ⟨rfl, hb2⟩)
    go_ret
    exact ⟨rfl, by first | assumption | exact Below.refl _ _⟩

theorem ptag_short (s : ByteArray) : tagName (bl s) = (shortB s && !decide (0 ≤ Lib.idxFunc (fun n => !tagRune n) true s)) := by
  rw [tag_short, bl_length]; rfl
set_option maxHeartbeats 2000000 in
set_option maxRecDepth 100000 in
theorem ptagName_any (s : ByteArray) (w : World) : Calls Tryz.prog 18 #[.string s] w fun e w' => e = .returned (.bool (tagName (bl s))) ∧ Below w.heap.size w w' := by
  have HS := Lib.hid (fun W => short_any s W)
  have HC := Lib.hid (Tryz.strings_ContainsFunc_grows 37 #[] (fun _ _ => rfl) (fun n => !tagRune n) s w (fun W x hx _ => tagRune_any x W hx))
  rw [ptag_short]
  generalize shortB s = b0 at *
  generalize decide (0 ≤ Lib.idxFunc (fun n => !tagRune n) true s) = b1 at *
  cases b0 <;> cases b1
  all_goals
    go_enter Tryz.func18, Tryz.ntmps18
    go_wp2_with (first
      | (go_at_call 35; refine (HS.out _).mono ?_; rintro e w2 ⟨rfl, rfl⟩)
      | (go_at_call 36; refine HC.out.mono ?_; rintro e w3 ⟨rfl, hb3⟩))
    go_ret
    exact ⟨rfl, by first | assumption | exact Below.refl _ _⟩
end Go.Proofs.YtapjgdhdgpakhaaGreatDoor.Hj
