/-
  The program's Walk (layer 6): it comes to what the document's walk comes to.
-/
import Derived.Test.YtmfejibllhccaaaXe
namespace Go.Proofs.Ytmfejibllhccaaa.Hx
open Go.RowKit Hw
set_option linter.unusedVariables false

theorem nexts_len (es : List (Int × Int)) (k : Int) : (nexts es k).length ≤ es.length := by
  have := nexts_le es k es.length
  rwa [List.take_length] at this

/-- what an append turns -/
theorem append_turns {w w5 : World} {o : Obj} {v v5 : Value} (hg : (w.alloc o).grownBy w5 v.ownBlock) (hat : v5.ownBlock = v.ownBlock ∨ v5.ownBlock = some (w.alloc o).heap.size) : Turns v.ownBlock.toList v5.ownBlock.toList w w5 := by
  refine (((Turns.refl v.ownBlock.toList w).alloc o).grown hg (fun k hk => by simp [hk])).to ?_
  intro k hk
  rcases hat with h | h
  · exact .inl (by rw [h] at hk; exact hk)
  · rw [h] at hk
    simp at hk
    exact .inr (by omega)

set_option maxHeartbeats 4000000 in
set_option maxRecDepth 100000 in
theorem walk_any {U : List Int} {es : List (Int × Int)} {bs : List Int} {f : Nat} {lb : Array Value} {J : List Int → List Nat → World → Prop} (hN : NextOk U es bs f lb J) (hU : ∀ k x, x ∈ nexts es k → x ∈ U) (hUwf : ∀ x, x ∈ U → (Lit.int .i64 x).wf = true)
    (w : World) (S : List Nat) (A : Option Addr) (c : Nat) (first : List Int) (most : Int) (hJ : J [] S w) (hf : Ints w w.heap.size A first) (hfA : ∀ ad, A = some ad → ad.block < w.heap.size) (hfU : ∀ x, x ∈ first → x ∈ U) (hel : es.length ≤ 200) (hml : miss U [] ≤ 400) (hfl : first.length ≤ 1000) :
    Calls Try.prog 22 #[.slice A first.length c, .int .i64 most, .func (.func f) #[] lb] w (WalkEnds J w S (goesF U most es bs [] first)) := by
  have HN := Lib.hid hN
  have HUW := Lib.hid (And.intro hU hUwf)
  have hq := eq_func_some
  have hen := hN.enters
  obtain ⟨i0, hi0, hz0, hz1, hz2⟩ := info_parts info3
  have HI := Lib.hid (And.intro hi0 (And.intro hz0 (And.intro hz1 hz2)))
  clear hi0 hz0 hz1 hz2 hN hU hUwf
  have hB0 : Below w.heap.size w ((w.alloc (.cells #[.map none, .slice none 0 0] 38)).alloc (.cells #[.slice none 0 0] 35)) := ((Below.refl _ w).alloc (Nat.le_refl _) _).alloc (by simp) _
  have hs0 : SeenAt ((w.alloc (.cells #[.map none, .slice none 0 0] 38)).alloc (.cells #[.slice none 0 0] 35)) w.heap.size [] [w.heap.size] := ⟨_, .inl ⟨(Below.heap_alloc _ _ _ (by simp)).trans (heap_alloc_new w _), rfl, rfl⟩⟩
  have ht0 : TodoAt ((w.alloc (.cells #[.map none, .slice none 0 0] 38)).alloc (.cells #[.slice none 0 0] 35)) (w.heap.size + 1) [] [w.heap.size + 1] := by
    have h1 := heap_alloc_new (w.alloc (.cells #[.map none, .slice none 0 0] 38)) (.cells #[.slice none 0 0] 35)
    rw [World.size_alloc] at h1
    exact ⟨_, _, h1, World.ownsRow_nil _ _ _ _, by simp [Value.ownBlock], rfl⟩
  have hSl : Lies S w := HN.out.lies hJ
  have hinv0 : Inv J w S (w.heap.size + 1) w.heap.size [] [] [] [] (.slice none 0 0) [w.heap.size + 1] [w.heap.size] S ((w.alloc (.cells #[.map none, .slice none 0 0] 38)).alloc (.cells #[.slice none 0 0] 35)) :=
    { todo := ht0
      seen := hs0
      own := World.ownsRow_nil _ _ _ _
      j := HN.out.same hJ (same_of_below hB0 hSl)
      turns := turns_below S hB0
      lies := hSl.mono hB0.size
      fg := fun k hk hg => by simp at hk hg; omega
      fo := fun k _ hg => by simp [Value.ownBlock] at hg
      fs := fun k hk hg => by have := hSl k hg; simp at hk; omega
      go := fun k _ hg => by simp [Value.ownBlock] at hg
      gs := fun k hk hg => by have := hSl k hg; simp at hk; omega
      os := fun k hk => by simp [Value.ownBlock] at hk
      newF := fun k hk => by simp at hk; omega
      newG := fun k hk => by simp at hk; omega }
  have HP := Lib.hid (pushnew_any _ (w.heap.size + 1) w.heap.size w.heap.size [w.heap.size + 1] [w.heap.size] [] [] first A c ht0 hs0 hinv0.fg.symm (hf.below hB0) (fun ad ha => ⟨by have := hfA ad ha; have := hB0.size; omega, fun e => by have := hfA ad ha; simp at e; omega⟩) (fun x hx => HUW.out.2 x (hfU x hx)) (by simp; omega))
  have HINV := Lib.hid hinv0
  have HFU := Lib.hid hfU
  clear hs0 ht0 hinv0 hf hfA hfU hJ hB0 hSl
  have hff : (first.reverse.filter fun x => decide (x ∉ ([] : List Int))) = first.reverse := List.filter_eq_self.2 (fun x _ => by simp)
  have hr0 : goesF U most es bs [] first = goesF U most es bs [] ([] ++ first.reverse.filter fun x => decide (x ∉ ([] : List Int))).reverse := by rw [hff]; simp
  have hm0 : first.length + (es.length + 1) * miss U [] ≤ 90000 := by
    have := Nat.mul_le_mul (show es.length + 1 ≤ 201 by omega) hml
    omega
  have hlf : ([] ++ first.reverse.filter fun x => decide (x ∉ ([] : List Int))).length = first.length := by rw [hff]; simp
  have HR0 := Lib.hid (And.intro hr0 (And.intro hm0 hlf))
  have HE := Lib.hid (And.intro hel (And.intro hml hfl))
  clear hr0 hm0 hlf hel hml hfl hff
  generalize goesF U most es bs [] first = R at *
  go_enter Try.func22, Try.ntmps22
  go_wp2_with fail
  refine HP.out.mono ?_
  rintro e w1 ⟨rfl, F1, ht1, hu1⟩
  have hinv1 := HINV.out.todoTurn HN.out hu1 ht1
  have HINV1 := Lib.hid hinv1
  clear hinv1 ht1 hu1 HINV HP
  go_wp2_with fail
  go_loopg [8, 11, 12, 13, 14] (first.length + (es.length + 1) * miss U []) (fun g s8 s11 s12 s13 s14 wr => ∃ (out xs : List Int) (F G S' : List Nat), Inv J w S (w.heap.size + 1) w.heap.size xs out out out s8 F G S' wr ∧ R = goesF U most es bs out xs.reverse ∧ (∀ x, x ∈ xs → x ∈ U) ∧ Keeps U [] out ∧ g = xs.length + (es.length + 1) * miss U out ∧ g ≤ 90000)
  case atStart =>
    obtain ⟨hr0, hm0, hlf⟩ := HR0.out
    exact ⟨[], _, F1, _, S, HINV1.out, hr0, fun x hx => HFU.out x (by simpa using hx), Keeps.refl _ _, by rw [hlf], hm0⟩
  case round =>
    obtain ⟨out, xs, F, G, S', hinv, hR, hxU, hkp, hg, hgb⟩ := hrel
    have HK := Lib.hid (And.intro hR (And.intro hxU (And.intro hkp (And.intro hg hgb))))
    have hol : out.length ≤ 400 := by have := hkp.2; have := HE.out.2.1; simp at *; omega
    have hxl : xs.length ≤ 90000 := by
      rw [hg] at hgb
      exact Nat.le_trans (Nat.le_add_right _ _) hgb
    obtain ⟨Ao, co, rfl⟩ := own_slice hinv.own
    clear hR hxU hkp hg hgb HINV1 HR0 HFU
    rcases List.eq_nil_or_concat xs with rfl | ⟨ys, k, rfl⟩
    · have HPOP := Lib.hid (pop_nil wr _ F hinv.todo)
      have HIV := Lib.hid hinv
      clear hinv
      go_wp2_with fail
      refine HPOP.out.mono ?_
      rintro e w2 ⟨rfl, rfl⟩
      go_wp2
      go_ret2
      rw [HK.out.1]
      exact HIV.out.ends true
    · rw [List.concat_eq_append] at *
      have hyl : ys.length ≤ 90000 := by simp at hxl; omega
      have HPOP := Lib.hid (pop_snoc wr _ F ys k hinv.todo (by omega))
      have HIV := Lib.hid hinv
      have hkU : k ∈ U := HK.out.2.1 k (by simp)
      have HKU := Lib.hid hkU
      have hkw := HUW.out.2 k hkU
      clear hinv hkU
      go_wp2_with fail
      refine HPOP.out.mono ?_
      rintro e w2 ⟨rfl, ht2, hu2⟩
      have hinv2 := HIV.out.todoTurn HN.out hu2 ht2
      have HHAS := Lib.hid (has_any w2 _ G out k hinv2.seen hkw)
      have HIV2 := Lib.hid hinv2
      clear hinv2 ht2 hu2 HPOP HIV
      by_cases hin : k ∈ out
      · rw [decide_eq_true hin] at HHAS
        go_wp2_with fail
        refine HHAS.out.mono ?_
        rintro e w3 ⟨rfl, hb3⟩
        have HIV3 := Lib.hid (HIV2.out.below HN.out hb3)
        clear hb3 HHAS HIV2
        go_wp2
        go_roundg (ys.length + (es.length + 1) * miss U out)
        case rel =>
          obtain ⟨hR, hxU, hkp, hg, hgb⟩ := HK.out
          rw [List.reverse_append, List.reverse_singleton, List.singleton_append, goes_seen hin] at hR
          rw [List.length_append, List.length_singleton] at hg
          exact ⟨out, ys, F, G, S', HIV3.out, hR, fun x hx => hxU x (by simp [hx]), hkp, rfl, by omega⟩
        case measure =>
          have hg := HK.out.2.2.2.1
          rw [List.length_append, List.length_singleton] at hg
          omega
      · rw [decide_eq_false hin] at HHAS
        by_cases hfull : most ≤ out.length
        · go_wp2_with fail
          refine HHAS.out.mono ?_
          rintro e w3 ⟨rfl, hb3⟩
          have HIV3 := Lib.hid (HIV2.out.below HN.out hb3)
          clear hb3 HHAS HIV2
          go_wp2
          go_ret2
          have hR := HK.out.1
          rw [List.reverse_append, List.reverse_singleton, List.singleton_append, goes_full hin hfull] at hR
          rw [hR]
          exact HIV3.out.ends false
        · have HIN := Lib.hid hin
          have HFL := Lib.hid hfull
          have hlt : (out.length : Int) < most := by omega
          clear hin hfull
          go_wp2_with fail
          refine HHAS.out.mono ?_
          rintro e w3 ⟨rfl, hb3⟩
          have hiv3 := HIV2.out.below HN.out hb3
          have HADD := Lib.hid (add_new w3 _ G out k hiv3.seen hkw HIN.out (by omega))
          have HIV3 := Lib.hid hiv3
          clear hb3 HHAS HIV2 hiv3
          go_wp2_with fail
          refine HADD.out.mono ?_
          rintro e w4 ⟨rfl, G', hs4, hu4⟩
          have HIV4 := Lib.hid (HIV3.out.seenTurn HN.out hu4 hs4)
          have hw4 : w.heap.size ≤ w4.heap.size := HIV4.out.turns.size
          clear HADD HIV3 hs4 hu4
          go_wp2_with (at_builtin; refine wpList_append_own_at _ rfl (.tmp 35) (.tmp 37) 26 rfl w.heap.size 3 i0 _ 1 8 Try.underlying26 HI.out.1 HI.out.2.1 HI.out.2.2.1 HI.out.2.2.2 rfl (by omega) (.slice Ao out.length co) out.length (intCells out) rfl (HIV4.out.own.alloc _) ⟨w4.heap.size, 0, none⟩ 1 1 [.int .i64 k] rfl rfl (World.news_of_block (cs := #[.int .i64 k]) (t := 3) (fr := (0, 0)) (heap_alloc_new w4 _)) (by simp [Value.oneCell']) (by unfold maxLen; omega) (by omega) (by simp; omega) ?_; intro v5 w5 hoA hgA hnA hatA; obtain ⟨g5, c5, rfl⟩ := own_succ hoA; have HT := Lib.hid (And.intro hoA (And.intro hgA hatA)); clear hoA hgA hnA hatA)
          have hos : (out ++ [k]).length = out.length + 1 := by simp
          have hiv5 := HIV4.out.rowTurn (out' := out ++ [k]) HN.out (append_turns HT.out.2.1 HT.out.2.2) (by rw [hos, intCells, List.map_append]; exact HT.out.1)
          have HIV5 := Lib.hid hiv5
          clear hiv5 HIV4 HT
          refine (HN.out.call out S' w5 k HIV5.out.j HKU.out (by omega)).mono ?_
          rintro e w6 ⟨A6, c6, S6, rfl, hin6, hA6, hj6, hu6⟩
          have hiv6 := HIV5.out.nextTurn HN.out hu6 hj6
          have HIV6 := Lib.hid hiv6
          have hw56 := hu6.size
          have hF5 := HIV5.out.todo.lies
          have hPN := fun (hl : ys.length + (nexts es k).length ≤ 100000) => pushnew_any w6 (w.heap.size + 1) w.heap.size w6.heap.size F G' ys (out ++ [k]) (nexts es k) A6 c6 hiv6.todo hiv6.seen hiv6.fg.symm hin6 (fun ad ha => ⟨(hA6 ad ha).2.1, fun e => by have := hF5 _ e; have := (hA6 ad ha).1; omega⟩) (fun x hx => HUW.out.2 x (HUW.out.1 k x hx)) hl
          have hnl := nexts_len es k
          have HPN := Lib.hid (hPN (by have := HE.out.1; omega))
          clear hiv6 hPN hu6 hj6 hin6 hA6 HIV5 hF5 hw56
          by_cases hbad : k ∈ bs
          · rw [decide_eq_true hbad]
            clear HPN
            go_wp2
            go_ret2
            have hR := HK.out.1
            rw [List.reverse_append, List.reverse_singleton, List.singleton_append, goes_bad HIN.out (by have := HFL.out; omega) hbad] at hR
            rw [hR]
            have h9 := HIV6.out
            rw [← hos] at h9
            have h8 := h9.ends false
            rw [hos] at h8
            exact h8
          · rw [decide_eq_false hbad]
            go_wp2_with fail
            refine HPN.out.mono ?_
            rintro e w7 ⟨rfl, F7, ht7, hu7⟩
            have HIV7 := Lib.hid (HIV6.out.todoTurn HN.out hu7 ht7)
            clear HPN HIV6 ht7 hu7
            go_wp2
            go_roundg ((ys ++ (nexts es k).reverse.filter fun x => decide (x ∉ out ++ [k])).length + (es.length + 1) * miss U (out ++ [k]))
            case rel =>
              obtain ⟨hR, hxU, hkp, hg, hgb⟩ := HK.out
              rw [List.reverse_append, List.reverse_singleton, List.singleton_append, goes_on HUW.out.1 HKU.out HIN.out (by have := HFL.out; omega) hbad] at hR
              have hlt := miss_lt HKU.out HIN.out
              have hfl := List.length_filter_le (fun x => decide (x ∉ out ++ [k])) (nexts es k).reverse
              have hmul := Nat.mul_le_mul_left (es.length + 1) (Nat.succ_le_of_lt hlt)
              rw [Nat.mul_succ] at hmul
              rw [List.length_append, List.length_singleton] at hg
              rw [List.length_reverse] at hfl
              refine ⟨out ++ [k], _, F7, G', S6, HIV7.out, ?_, ?_, hkp.trans (Keeps.snoc HKU.out HIN.out), rfl, ?_⟩
              · rw [hR, List.reverse_append, ← List.filter_reverse, List.reverse_reverse]
              · intro x hx
                rcases List.mem_append.1 hx with hx | hx
                · exact hxU x (by simp [hx])
                · exact HUW.out.1 k x (by simpa using (List.mem_filter.1 hx).1)
              · rw [List.length_append]; omega
            case measure =>
              obtain ⟨hR, hxU, hkp, hg, hgb⟩ := HK.out
              have hlt := miss_lt HKU.out HIN.out
              have hfl := List.length_filter_le (fun x => decide (x ∉ out ++ [k])) (nexts es k).reverse
              have hmul := Nat.mul_le_mul_left (es.length + 1) (Nat.succ_le_of_lt hlt)
              rw [Nat.mul_succ] at hmul
              rw [List.length_append, List.length_singleton] at hg
              rw [List.length_reverse] at hfl
              rw [List.length_append]
              omega
end Go.Proofs.Ytmfejibllhccaaa.Hx
