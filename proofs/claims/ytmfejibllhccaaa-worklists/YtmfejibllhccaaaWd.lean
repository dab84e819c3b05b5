/-
  Contracts of the document's come, all and Walk (layer 6).
-/
import Derived.Test.YtmfejibllhccaaaWc
namespace Go.Proofs.Ytmfejibllhccaaa.Hw
open Go.RowKit
set_option linter.unusedVariables false

section
variable (U : List Int) (most : Int) (es : List (Int × Int)) (bs : List Int) (B : Nat) (Ae Ab : Option Addr) (ce cb : Nat)
/-- what come does, with n of U missing at most -/
def ComeOk (n : Nat) : Prop := ∀ (w : World) (A : Option Addr) (c : Nat) (out : List Int) (k : Int), Prs w B Ae es → Ints w B Ab bs → B ≤ w.heap.size → Ints w w.heap.size A out → k ∈ U → miss U out ≤ n → out.length + miss U out ≤ 900 →
  Calls Try.prog 44 #[.slice A out.length c, .int .i64 k, .int .i64 most, .slice Ae es.length ce, .slice Ab bs.length cb] w
    fun e w' => (∃ A' c', e = .returned (.tuple #[.slice A' (comeF most es bs (n + 1) out k).1.length c', .bool (comeF most es bs (n + 1) out k).2]) ∧ Ints w' w'.heap.size A' (comeF most es bs (n + 1) out k).1) ∧ Below w.heap.size w w'
/-- what all does -/
def AllOk (n : Nat) : Prop := ∀ (w : World) (A Al : Option Addr) (c cl : Nat) (out l : List Int), Prs w B Ae es → Ints w B Ab bs → B ≤ w.heap.size → Ints w w.heap.size A out → Ints w w.heap.size Al l → (∀ x, x ∈ l → x ∈ U) → l.length ≤ 1000 → miss U out ≤ n → out.length + miss U out ≤ 900 →
  Calls Try.prog 39 #[.slice A out.length c, .slice Al l.length cl, .int .i64 most, .slice Ae es.length ce, .slice Ab bs.length cb] w
    fun e w' => (∃ A' c', e = .returned (.tuple #[.slice A' (allL (comeF most es bs (n + 1)) out l).1.length c', .bool (allL (comeF most es bs (n + 1)) out l).2]) ∧ Ints w' w'.heap.size A' (allL (comeF most es bs (n + 1)) out l).1) ∧ Below w.heap.size w w'
end

set_option maxHeartbeats 2000000 in
set_option maxRecDepth 100000 in
theorem all_of {U : List Int} {most : Int} {es : List (Int × Int)} {bs : List Int} {B : Nat} {Ae Ab : Option Addr} {ce cb n : Nat} (hU : ∀ k x, x ∈ nexts es k → x ∈ U) (hc : ComeOk U most es bs B Ae Ab ce cb n) : AllOk U most es bs B Ae Ab ce cb n := by
  intro w A Al c cl out l hes hbs hB hout hl hlU hlen hmiss hbd
  have HC := Lib.hid hc
  have HES := Lib.hid hes
  have HBS := Lib.hid hbs
  have HLI := Lib.hid hl
  have HO := Lib.hid hout
  have HLU := Lib.hid hlU
  have HK := Lib.hid (fun (l' : List Int) (h' : ∀ x, x ∈ l' → x ∈ U) => keeps_all (fun o x hx => keeps_come (most := most) (bs := bs) hU (n + 1) o x hx) l' out h')
  have HTK := Lib.hid (allL_take (comeF most es bs (n + 1)) l out)
  have HSTP := Lib.hid (allL_stop (comeF most es bs (n + 1)) l out)
  clear hc hes hbs hl hout hlU hU
  have h00 : allL (comeF most es bs (n + 1)) out (l.take 0) = (out, true) := by simp [allL]
  have H00 := Lib.hid h00
  clear h00
  go_enter Try.func39, Try.ntmps39
  go_wp2
  go_loopg [0, 12, 13, 14] l.length (fun g vo i s13 s14 wr => ∃ (j : Nat) (A' : Option Addr) (c' : Nat), j ≤ l.length ∧ g = l.length - j ∧ i = .int .i64 j ∧ vo = .slice A' (allL (comeF most es bs (n + 1)) out (l.take j)).1.length c' ∧ Ints wr wr.heap.size A' (allL (comeF most es bs (n + 1)) out (l.take j)).1 ∧ Below w.heap.size w wr ∧ (allL (comeF most es bs (n + 1)) out (l.take j)).2 = true)
  case atStart => exact ⟨0, A, c, Nat.zero_le _, rfl, rfl, by rw [H00.out], by rw [H00.out]; exact HO.out, Below.refl _ _, by rw [H00.out]⟩
  case round =>
    obtain ⟨j, A', c', hj, rfl, rfl, rfl, hin, hbl, hyes⟩ := hrel
    by_cases hlt : j < l.length
    · have h1 : (j : Int) < l.length := by omega
      have h0 : (0 : Int) ≤ j := by omega
      obtain ⟨ad, hAl, hB1, hc1⟩ := (HLI.out.below hbl) j hlt
      subst hAl
      have hkp := HK.out (l.take j) (fun x hx => HLU.out x (List.mem_of_mem_take hx))
      have htk := HTK.out j hlt hyes
      have hst := HSTP.out (j + 1)
      have hxU : l.getD j 0 ∈ U := HLU.out _ (by simp [List.getD, List.getElem?_eq_getElem hlt])
      have hm2 := miss_mono (U := U) hkp.1
      generalize allL (comeF most es bs (n + 1)) out (l.take j) = R at *
      generalize l.getD j 0 = x at *
      have hcc := HC.out wr A' c' R.1 x (HES.out.below (hbl.mono hB)) (HBS.out.below (hbl.mono hB)) (by have := hbl.size; omega) hin hxU (by omega) (by have := hkp.2; omega)
      have HCC := Lib.hid hcc
      have HIN := Lib.hid hin
      have hR1 : R.1.length ≤ 900 := by have := hkp.2; omega
      clear hcc hin hkp hm2 hxU hyes
      generalize comeF most es bs (n + 1) R.1 x = r at *
      have HTK2 := Lib.hid htk
      have HST2 := Lib.hid hst
      clear htk hst
      generalize R.1.length = RL at *
      go_wp2_with fail
      refine HCC.out.mono ?_
      rintro e w2 ⟨⟨A2, c2, rfl, hin2⟩, hb2⟩
      have HIN2 := Lib.hid hin2
      have HB2 := Lib.hid (hbl.trans (hb2.mono hbl.size))
      obtain ⟨r1, r2⟩ := r
      clear hin2 hb2 hbl HCC HIN
      cases r2
      · go_wp2
        go_ret2
        have h1 := HTK2.out
        simp only [Bool.false_eq_true, if_false] at h1
        have h2 := HST2.out (by rw [h1])
        rw [h1] at h2
        rw [h2]
        exact ⟨⟨A2, c2, rfl, HIN2.out⟩, HB2.out⟩
      · go_wp2
        go_roundg (l.length - (j + 1))
        case rel =>
          have h1 := HTK2.out
          simp only [if_true] at h1
          exact ⟨j + 1, A2, c2, by omega, rfl, by go_num, by rw [h1], by rw [h1]; exact HIN2.out, HB2.out, by rw [h1]⟩
        case measure => omega
    · obtain rfl : j = l.length := by omega
      rw [List.take_length]
      rw [List.take_length] at hin hyes
      generalize hR : allL (comeF most es bs (n + 1)) out l = R at *
      have HR := Lib.hid hR
      have HIN := Lib.hid hin
      have HY := Lib.hid hyes
      clear hin hyes hR
      obtain ⟨r1, r2⟩ := R
      obtain rfl : r2 = true := HY.out
      go_wp2
      go_ret2
      rw [HR.out]
      first | exact ⟨⟨A', c', rfl, HIN.out⟩, hbl⟩ | exact ⟨⟨A', ⟨c', rfl⟩, HIN.out⟩, hbl⟩

set_option maxHeartbeats 2000000 in
set_option maxRecDepth 100000 in
theorem come_ok {U : List Int} {most : Int} {es : List (Int × Int)} {bs : List Int} {B : Nat} {Ae Ab : Option Addr} {ce cb : Nat} (hU : ∀ k x, x ∈ nexts es k → x ∈ U) (hes : es.length ≤ 1000) (hbs : bs.length ≤ 1000) :
    ∀ n, ComeOk U most es bs B Ae Ab ce cb n := by
  intro n
  induction n with
  | zero =>
    intro w A c out k h1 h2 hB hout hk hmiss hbd
    have hin : k ∈ out := Classical.byContradiction fun hn => by have := miss_pos hk hn; omega
    have hr : comeF most es bs (0 + 1) out k = (out, true) := by rw [comeF, if_pos hin]
    have HR := Lib.hid hr
    have HI := Lib.hid (in_any w w.heap.size A c out k hout (by omega))
    rw [decide_eq_true hin] at HI
    have HO := Lib.hid hout
    clear hr hout hin
    go_enter Try.func44, Try.ntmps44
    go_wp2_with fail
    refine HI.out.mono ?_
    rintro e w2 ⟨rfl, rfl⟩
    go_wp2
    go_ret2
    rw [HR.out]
    exact ⟨⟨A, c, rfl, HO.out⟩, Below.refl _ _⟩
  | succ n ih =>
    intro w A c out k h1 h2 hB hout hk hmiss hbd
    have HALL := Lib.hid (all_of hU ih)
    clear ih
    have HI := Lib.hid (in_any w w.heap.size A c out k hout (by omega))
    have HO := Lib.hid hout
    by_cases hin : k ∈ out
    · have hr : comeF most es bs (n + 1 + 1) out k = (out, true) := by rw [comeF, if_pos hin]
      have HR := Lib.hid hr
      rw [decide_eq_true hin] at HI
      clear hr hout hin
      go_enter Try.func44, Try.ntmps44
      go_wp2_with fail
      refine HI.out.mono ?_
      rintro e w2 ⟨rfl, rfl⟩
      go_wp2
      go_ret2
      rw [HR.out]
      exact ⟨⟨A, c, rfl, HO.out⟩, Below.refl _ _⟩
    · by_cases hfull : most ≤ out.length
      · have hr : comeF most es bs (n + 1 + 1) out k = (out, false) := by rw [comeF, if_neg hin, if_pos hfull]
        have HR := Lib.hid hr
        rw [decide_eq_false hin] at HI
        clear hr hout hin
        go_enter Try.func44, Try.ntmps44
        go_wp2_with fail
        refine HI.out.mono ?_
        rintro e w2 ⟨rfl, rfl⟩
        go_wp2
        go_ret2
        rw [HR.out]
        exact ⟨⟨A, c, rfl, HO.out⟩, Below.refl _ _⟩
      · have hr : comeF most es bs (n + 1 + 1) out k = (if k ∈ bs then (out ++ [k], false) else allL (comeF most es bs (n + 1)) (out ++ [k]) (nexts es k)) := by rw [comeF, if_neg hin, if_neg hfull]
        have HR := Lib.hid hr
        have hlt := miss_lt hk hin
        have hol : out.length ≤ 900 := by omega
        have hos : (out ++ [k]).length = out.length + 1 := by simp
        rw [decide_eq_false hin] at HI
        obtain ⟨v1, w1, hrun, hown, hb1⟩ := app_ints w A c out hout (by omega)
        obtain ⟨i0, hi0, hz0, hz1, hz2⟩ := info_parts info3
        have HINF := Lib.hid (And.intro hi0 (And.intro hz0 (And.intro hz1 hz2)))
        have HRUN := Lib.hid hrun
        have HOWN := Lib.hid hown
        have HB1 := Lib.hid hb1
        have hw1 := hb1.size
        have HP := Lib.hid h1
        have HBB := Lib.hid h2
        have HKP := Lib.hid (Keeps.snoc hk hin)
        clear hrun hown hb1 hi0 hz0 hz1 hz2 h1 h2 hr hout hin hk
        generalize out.length = OL at *
        go_enter Try.func44, Try.ntmps44
        go_wp2_with fail
        refine HI.out.mono ?_
        rintro e w2 ⟨rfl, rfl⟩
        go_wp2_with (first
          | (at_builtin; refine wpList_append_run rfl (.tmp 23) (.tmp 24) 26 26 rfl _ _ v1 w1 rfl rfl HRUN.out ?_)
          | (at_builtin; refine wpList_append_own_at _ rfl (.tmp 25) (.tmp 27) 26 rfl w2.heap.size 3 i0 _ 1 8 Try.underlying26 HINF.out.1 HINF.out.2.1 HINF.out.2.2.1 HINF.out.2.2.2 rfl (by omega) v1 OL (intCells out) rfl (HOWN.out.alloc _) ⟨w1.heap.size, 0, none⟩ 1 1 [.int .i64 k] rfl rfl (World.news_of_block (cs := #[.int .i64 k]) (t := 3) (fr := (0, 0)) (heap_alloc_new w1 _)) (by simp [Value.oneCell']) (by unfold maxLen; omega) (by omega) (by simp; omega) ?_; intro v3 w3 hoA hgA hnA hatA))
        have hown3 : w3.ownsRow w2.heap.size 3 1 v3 (out ++ [k]).length (intCells (out ++ [k])) := by
          rw [hos, intCells, List.map_append]
          exact hoA
        have hb3 : Below w2.heap.size w2 w3 := (HB1.out.alloc hw1 _).grown hgA (by simp; omega) (fun i hi => (HOWN.out.lt i hi).1)
        have hkp := HKP.out.2
        have ho2 : (out ++ [k]).length + miss U (out ++ [k]) ≤ 900 := by omega
        clear hoA hgA hnA hatA HRUN HOWN HB1 HI HINF hos HKP hkp
        generalize out ++ [k] = o2 at *
        obtain ⟨A3, c3, rfl, hin3⟩ := ints_own hown3
        have hz3 := hb3.size
        have hl4 : (nexts es k).length ≤ 1000 := by have := nexts_le es k es.length; rw [List.take_length] at this; omega
        refine (next_any w3 B Ae Ab ce cb es bs k (HP.out.below (hb3.mono hB)) (HBB.out.below (hb3.mono hB)) (by omega) hes hbs).mono ?_
        rintro e4 w4 ⟨⟨A4, c4, rfl, hin4⟩, hb4⟩
        have hz4 := hb4.size
        have hin34 : Ints w4 w4.heap.size A3 o2 := (hin3.below hb4).mono hz4
        have hb34 := hb3.trans (hb4.mono hz3)
        have HB34 := Lib.hid hb34
        have HIN := Lib.hid hin34
        have HA := Lib.hid (fun (hb : k ∉ bs) => HALL.out w4 A3 A4 c3 c4 o2 (nexts es k) (HP.out.below (hb34.mono hB)) (HBB.out.below (hb34.mono hB)) (by omega) hin34 hin4 (hU k) hl4 (by omega) ho2)
        clear hown3 hin3 hb3 hb4 hin4 hin34 hb34 HALL HP HBB HO
        by_cases hbad : k ∈ bs
        · have hr := HR.out
          rw [if_pos hbad] at hr
          have HR2 := Lib.hid hr
          have hd := decide_eq_true hbad
          rw [hd]
          clear hr hd hbad HR
          go_wp2
          go_ret2
          rw [HR2.out]
          first | exact ⟨⟨A3, c3, rfl, HIN.out⟩, HB34.out⟩ | exact ⟨⟨A3, ⟨c3, rfl⟩, HIN.out⟩, HB34.out⟩
        · have hr := HR.out
          rw [if_neg hbad] at hr
          have hal := HA.out hbad
          rw [← hr] at hal
          have hd := decide_eq_false hbad
          rw [hd]
          generalize hres : comeF most es bs (n + 1 + 1) out k = res at *
          have HRES := Lib.hid hres
          have HAL := Lib.hid hal
          clear hr hd hbad HR HA hal hres
          generalize (nexts es k).length = NL at *
          generalize o2.length = OL2 at *
          go_wp2_with fail
          refine HAL.out.mono ?_
          rintro e5 w5 ⟨⟨A5, c5, rfl, hin5⟩, hb5⟩
          have HIN5 := Lib.hid hin5
          have HB5 := Lib.hid (HB34.out.trans (hb5.mono (by omega)))
          clear hin5 hb5
          go_wp2
          go_ret2
          rw [HRES.out]
          first | exact ⟨⟨A5, c5, rfl, HIN5.out⟩, HB5.out⟩ | exact ⟨⟨A5, ⟨c5, rfl⟩, HIN5.out⟩, HB5.out⟩

/-- the document's walk -/
def walkF (most : Int) (es : List (Int × Int)) (bs first : List Int) : List Int × Bool := allL (comeF most es bs (miss (first ++ es.map (·.2)) [] + 1)) [] first
theorem nexts_mem {es : List (Int × Int)} {k x : Int} (h : x ∈ nexts es k) : x ∈ es.map (·.2) := by
  rw [nexts] at h
  obtain ⟨e, he, rfl⟩ := List.mem_map.1 h
  exact List.mem_map_of_mem (List.mem_filter.1 he).1
set_option maxRecDepth 100000 in
theorem rwalk_any (w : World) (most : Int) (es : List (Int × Int)) (bs first : List Int) (Af Ae Ab : Option Addr) (cf ce cb : Nat) (hf : Ints w w.heap.size Af first) (he : Prs w w.heap.size Ae es) (hb : Ints w w.heap.size Ab bs) (hfl : first.length ≤ 400) (hel : es.length ≤ 400) (hbl : bs.length ≤ 400) :
    Calls Try.prog 25 #[.slice Af first.length cf, .int .i64 most, .slice Ae es.length ce, .slice Ab bs.length cb] w
      fun e w' => (∃ A' c', e = .returned (.tuple #[.slice A' (walkF most es bs first).1.length c', .bool (walkF most es bs first).2]) ∧ Ints w' w'.heap.size A' (walkF most es bs first).1) ∧ Below w.heap.size w w' := by
  have hU : ∀ k x, x ∈ nexts es k → x ∈ first ++ es.map (·.2) := fun k x hx => List.mem_append_right _ (nexts_mem hx)
  have hm : miss (first ++ es.map (·.2)) [] ≤ 800 := by
    unfold miss
    refine Nat.le_trans (List.length_filter_le _ _) ?_
    simp
    omega
  have hall := all_of (most := most) (bs := bs) (B := w.heap.size) (Ae := Ae) (Ab := Ab) (ce := ce) (cb := cb) hU (come_ok hU (by omega) (by omega) (miss (first ++ es.map (·.2)) []))
  have h := hall w none Af 0 cf [] first he hb (Nat.le_refl _) (fun i hi => by simp at hi) hf (fun x hx => List.mem_append_left _ hx) (by omega) (Nat.le_refl _) (by simp; omega)
  have HA := Lib.hid (show Calls _ _ _ _ fun e w' => (∃ A' c', e = .returned (.tuple #[.slice A' (walkF most es bs first).1.length c', .bool (walkF most es bs first).2]) ∧ Ints w' w'.heap.size A' (walkF most es bs first).1) ∧ Below w.heap.size w w' from h)
  clear h hall hU hm hf he hb
  generalize walkF most es bs first = res at *
  go_enter Try.func25, Try.ntmps25
  go_wp2_with fail
  refine HA.out.mono ?_
  rintro e5 w5 ⟨⟨A5, c5, rfl, hin5⟩, hb5⟩
  have HIN5 := Lib.hid hin5
  clear hin5
  go_wp2
  go_ret2
  first | exact ⟨⟨A5, c5, rfl, HIN5.out⟩, hb5⟩ | exact ⟨⟨A5, ⟨c5, rfl⟩, HIN5.out⟩, hb5⟩
end Go.Proofs.Ytmfejibllhccaaa.Hw
