/-
  Layer 11, the program's side: whether one of two bytes is in a text; names of entries; persons; the signature; lists of entries that are right.
-/
import Derived.Test.YtapjgdhdgpakhaaGreatDoorOy
import Derived.Test.YtapjgdhdgpakhaaGreatDoorO2
import Derived.Test.YtapjgdhdgpakhaaGreatDoorSt
import Derived.Lib.OthersKept
import Derived.Laws.Cover1
namespace Go.Proofs.YtapjgdhdgpakhaaGreatDoor.Hj
open Go.RowKit Ob Hr
set_option linter.unusedVariables false

set_option maxHeartbeats 1000000 in
set_option maxRecDepth 100000 in
theorem useSet_any (n : Nat) (w : World) : Calls Tryz.prog 97 #[.int .i64 n] w fun e w' => e = .returned (.bool (decide (8 < n))) ∧ w = w' := by
  by_cases h : 8 < n
  · have i1 : (8 : Int) < n := by omega
    rw [decide_eq_true h]
    clear h
    go_enter Tryz.func97, Tryz.ntmps97
    go_wp2
    go_ret
    exact ⟨rfl, rfl⟩
  · have i1 : ¬ (8 : Int) < n := by omega
    rw [decide_eq_false h]
    clear h
    go_enter Tryz.func97, Tryz.ntmps97
    go_wp2
    go_ret
    exact ⟨rfl, rfl⟩

def anyAt (s : ByteArray) (a b : UInt8) : Int := Lib.indexAny (bl s) [a, b]
set_option maxHeartbeats 4000000 in
set_option maxRecDepth 100000 in
theorem anyShort_any (s : ByteArray) (a b : UInt8) (w : World) (ha : a.toNat < 128) (hb : b.toNat < 128) (h8 : s.size ≤ 8) :
    Calls Tryz.prog 76 #[.string s, .string ⟨#[a, b]⟩] w fun e w' => e = .returned (.int .i64 (anyAt s a b)) ∧ Below w.heap.size w w' := by
  have hab : ∀ c ∈ [a, b], c.toNat < 128 := fun c hc => by simp at hc; rcases hc with rfl | rfl <;> assumption
  have HAB := Lib.hid hab
  have HF := Lib.hid (fun (r : Int) W h0 h1 => runeFar_any ⟨#[a, b]⟩ r W (by simp [ByteArray.size]) (fun j hj => by
    have hj2 : j < 2 := hj
    rcases (by omega : j = 0 ∨ j = 1) with rfl | rfl
    · exact ha
    · exact hb) h0 h1)
  have HS := Lib.hid (useSet_any s.size)
  rw [decide_eq_false (by omega)] at HS
  clear ha hb hab
  go_enter Tryz.func76, Tryz.ntmps76
  go_wp2_with (go_at_call 97; refine (HS.out _).mono ?_; rintro e w2 ⟨rfl, rfl⟩)
  go_loopg [] s.size (fun g wx => ∃ pos : Nat, wx.heap[w.heap.size]? = some (.stringIter s pos) ∧ Below w.heap.size w wx ∧ Lib.NoAny (bl s) [a, b] pos ∧ s.size ≤ pos + g)
  case atStart => exact ⟨0, World.iter_heap w s 0, below_iter w s 0, Lib.NoAny.zero _ _, by omega⟩
  case round =>
    obtain ⟨pos, hit, hbw, hno, hfu⟩ := hrel
    have HN := Lib.hid hno
    clear hno
    by_cases hps : pos < s.size
    · have hwd : 1 ≤ (Utf8.decode s pos).2 := Lib.decode_width_pos s pos hps
      have hnx : ∀ ty, (Instr.next (.pointer (some ⟨w.heap.size, 0, none⟩)) true ty).run Tryz.prog wr = _ := fun ty => Lib.run_next_any_at wr w.heap.size s pos ty hit hps
      by_cases hlow : s[pos].toNat < 128
      · rw [Go.decode_ascii s pos hps hlow] at hnx hwd
        have hit2 := Lib.iterAt_heap wr w.heap.size s pos (pos + 1) hit
        have hbw2 := Lib.below_iterAt hbw (k := w.heap.size) (Nat.le_refl _) s (pos + 1)
        have hxl := data_getD s pos hps
        generalize s[pos] = x at *
        generalize wr.iterAt w.heap.size s (pos + 1) = W at *
        have HX := Lib.hid (And.intro hxl (And.intro hit2 hbw2))
        have hcon := Lib.contains_iff_indexByte [a, b] x
        have HI := Lib.hid (fun W => Tryz.strings_IndexRune_ascii ⟨#[a, b]⟩ x.toNat W (by omega) (by omega))
        have hback : ((x.toNat : Int)).toNat.toUInt8 = x := by simp
        rw [hback] at HI
        clear hit hbw hxl hit2 hbw2
        cases hin : [a, b].contains x
        · rw [hin] at hcon
          have hlt : ¬ ((0 : Int) ≤ Lib.indexByte [a, b] x) := of_decide_eq_false hcon.symm
          have HQ := Lib.hid (HN.out.succ HX.out.1 hin)
          clear hcon hin
          go_wp2_with (go_at_call 75; refine (HI.out _).mono ?_; rintro e w' ⟨rfl, rfl⟩)
          go_roundg (gk - 1)
          case measure => omega
          case rel => exact ⟨pos + 1, HX.out.2.1, HX.out.2.2, HQ.out, by omega⟩
        · rw [hin] at hcon
          have hge : (0 : Int) ≤ Lib.indexByte [a, b] x := of_decide_eq_true hcon.symm
          have HQ := Lib.hid (Lib.indexAny_hit HN.out HX.out.1 hin)
          clear hcon hin
          go_wp2_with (go_at_call 75; refine (HI.out _).mono ?_; rintro e w' ⟨rfl, rfl⟩)
          go_ret
          exact ⟨by rw [anyAt, HQ.out]; rfl, HX.out.2.2⟩
      · have hd := decode_far s pos hps (by omega)
        have HQ := Lib.hid (noAny_far HAB.out HN.out hps (by omega))
        have hit2 := Lib.iterAt_heap wr w.heap.size s pos (pos + (Utf8.decode s pos).2) hit
        have hbw2 := Lib.below_iterAt hbw (k := w.heap.size) (Nat.le_refl _) s (pos + (Utf8.decode s pos).2)
        have HFR := Lib.hid (fun W => HF.out (Utf8.decode s pos).1 W (by omega) (by omega))
        clear hit hbw hd hlow
        generalize (Utf8.decode s pos).2 = K at *
        generalize (Utf8.decode s pos).1 = R at *
        generalize wr.iterAt w.heap.size s (pos + K) = W at *
        have HX := Lib.hid (And.intro hit2 hbw2)
        clear hit2 hbw2
        go_wp2_with (go_at_call 75; refine (HFR.out _).mono ?_; rintro e w' ⟨rfl, hb2⟩)
        go_roundg (gk - K)
        case measure => omega
        case rel =>
          have hlt : w.heap.size < W.heap.size := (Array.getElem?_eq_some_iff.1 HX.out.1).1
          exact ⟨pos + K, by rw [hb2.block _ hlt]; exact HX.out.1, HX.out.2.trans (hb2.mono HX.out.2.size), HQ.out, by omega⟩
    · have hnx : ∀ ty, (Instr.next (.pointer (some ⟨w.heap.size, 0, none⟩)) true ty).run Tryz.prog wr = _ := fun ty => Lib.run_next_end_at wr w.heap.size s pos ty hit hps
      have HQ := Lib.hid (show anyAt s a b = -1 from Lib.indexAny_none (fun j c hj hc => HN.out j c (by
        have : j < (bl s).length := (List.getElem?_eq_some_iff.1 hc).1
        rw [bl_length] at this; omega) hc))
      go_wp2
      go_ret
      exact ⟨by rw [HQ.out]; rfl, hbw⟩

set_option maxRecDepth 100000 in
theorem anyLong_any (s : ByteArray) (a b : UInt8) (w : World) (ha : a.toNat < 128) (hb : b.toNat < 128) (h8 : 8 < s.size) (hs : s.size ≤ 100000) :
    Calls Tryz.prog 76 #[.string s, .string ⟨#[a, b]⟩] w fun e w' => e = .returned (.int .i64 (anyAt s a b)) ∧ Below w.heap.size w w' := by
  refine (Tryz.strings_IndexAny_long (fun w => by kernel_rfl) s ⟨#[a, b]⟩ w (by simp [ByteArray.size]) h8 (by omega) (by simp [ByteArray.size]) (fun j c hj => ?_)).mono ?_
  · have hm := List.mem_of_getElem? hj
    have hm2 : c = a ∨ c = b := by simpa using hm
    rcases hm2 with rfl | rfl <;> assumption
  · rintro e w' ⟨rfl, rfl⟩
    exact ⟨rfl, ((Below.refl _ w).alloc (Nat.le_refl _) _).alloc (by simp) _⟩
def anyIn (s : ByteArray) (a b : UInt8) : Bool := decide (0 ≤ anyAt s a b)
set_option maxHeartbeats 1000000 in
set_option maxRecDepth 100000 in
theorem anyIn_any (s : ByteArray) (a b : UInt8) (w : World) (ha : a.toNat < 128) (hb : b.toNat < 128) (hs : s.size ≤ 100000) :
    Calls Tryz.prog 39 #[.string s, .string ⟨#[a, b]⟩] w fun e w' => e = .returned (.bool (anyIn s a b)) ∧ Below w.heap.size w w' := by
  have HX : Hid (Calls Tryz.prog 76 #[.string s, .string ⟨#[a, b]⟩] w fun e w' => e = .returned (.int .i64 (anyAt s a b)) ∧ Below w.heap.size w w') := Lib.hid (by
    by_cases h : s.size ≤ 8
    · exact anyShort_any s a b w ha hb h
    · exact anyLong_any s a b w ha hb (by omega) hs)
  rw [anyIn]
  generalize anyAt s a b = k at *
  go_enter Tryz.func39, Tryz.ntmps39
  go_wp2_with (go_at_call 76; refine HX.out.mono ?_; rintro e w2 ⟨rfl, hb2⟩)
  go_ret
  exact ⟨rfl, hb2⟩

set_option maxHeartbeats 2000000 in
set_option maxRecDepth 100000 in
theorem pentName_any (s : ByteArray) (w : World) : Calls Tryz.prog 20 #[.string s] w fun e w' => e = .returned (.bool (entryName (bl s))) ∧ Below w.heap.size w w' := by
  have HS := Lib.hid (fun W => short_any s W)
  have HC := Lib.hid (fun (h : shortB s = true) => show Calls Tryz.prog 39 #[.string s, .string ⟨#[0, 47]⟩] w fun e w' => e = .returned (.bool (anyIn s 0 47)) ∧ Below w.heap.size w w' from anyIn_any s 0 47 w (by decide) (by decide) (by simp [shortB] at h; omega))
  have HP : entryName (bl s) = (shortB s && !anyIn s 0 47 && !(s.toList == [46]) && !(s.toList == [46, 46])) := by rw [entry_short, bl_length, toList_bl]; rfl
  rw [HP]
  clear HP
  generalize anyIn s 0 47 = b1 at *
  generalize shortB s = b0 at *
  obtain ⟨b2, e2⟩ : ∃ b, (s.toList == [46]) = b := ⟨_, rfl⟩
  obtain ⟨b3, e3⟩ : ∃ b, (s.toList == [46, 46]) = b := ⟨_, rfl⟩
  rw [e2, e3]
  cases b0 <;> cases b1 <;> cases b2 <;> cases b3
  all_goals
    go_enter Tryz.func20, Tryz.ntmps20
    go_wp2_with (first
      | (go_at_call 35; refine (HS.out _).mono ?_; rintro e w2 ⟨rfl, rfl⟩)
      | (go_at_call 39; refine (HC.out (by first | exact trivial | rfl)).mono ?_; rintro e w3 ⟨rfl, hb3⟩))
    go_ret
    exact ⟨rfl, by first | assumption | exact Below.refl _ _⟩

set_option maxHeartbeats 2000000 in
set_option maxRecDepth 100000 in
theorem psigned_any (o : Thing) (A : Option Addr) (c : Nat) (P : Option Addr) (d : Nat) (w : World) : Calls Tryz.prog 45 #[.agg (objC o A c P d)] w fun e w' => e = .returned (.bool (signed o)) ∧ Below w.heap.size w w' := by
  have HB := Lib.hid (box_new w 25 (objC o A c P d))
  have HA := Lib.hid ((Below.refl _ w).alloc (Nat.le_refl _) (.cells (objC o A c P d) 25))
  have HS := Lib.hid (fun W => short_any o.who W)
  have HC := Lib.hid (fun W (h : shortB o.who = true) => show Calls Tryz.prog 39 #[.string o.who, .string ⟨#[0, 10]⟩] W fun e w' => e = .returned (.bool (anyIn o.who 0 10)) ∧ Below W.heap.size W w' from anyIn_any o.who 0 10 W (by decide) (by decide) (by simp [shortB] at h; omega))
  have HP : signed o = ((shortB o.who && !anyIn o.who 0 10) && decide (0 ≤ o.time) && decide (o.time ≤ 2147483647)) := by rw [signed, person_short, bl_length]; rfl
  rw [HP]
  clear HP
  generalize anyIn o.who 0 10 = b1 at *
  generalize shortB o.who = b0 at *
  rcases (by omega : o.time < 0 ∨ (0 ≤ o.time ∧ o.time ≤ 2147483647) ∨ 2147483647 < o.time) with h | h | h
  all_goals
    first | rw [decide_eq_true (by omega : 0 ≤ o.time)] | rw [decide_eq_false (by omega : ¬ 0 ≤ o.time)]
    first | rw [decide_eq_true (by omega : o.time ≤ 2147483647)] | rw [decide_eq_false (by omega : ¬ o.time ≤ 2147483647)]
    first | have d1 : (0 : Int) ≤ o.time := by omega
          | have d1 : ¬ (0 : Int) ≤ o.time := by omega
    first | have d2 : o.time ≤ 2147483647 := by omega
          | have d2 : ¬ o.time ≤ 2147483647 := by omega
    clear h
    cases b0 <;> cases b1
  all_goals
    go_enter Tryz.func45, Tryz.ntmps45
    go_wp2_with (first
      | (go_at_call 35; refine (HS.out _).mono ?_; rintro e w2 ⟨rfl, rfl⟩)
      | (go_at_call 39; refine (HC.out _ (by first | exact trivial | rfl)).mono ?_; rintro e w3 ⟨rfl, hb3⟩; have HB := Lib.hid (HB.out.step hb3); have HA := Lib.hid (HA.out.trans (hb3.mono HA.out.size)); obtain ⟨c0, c1, c2, c3, c4, c5, c6, c7, c8, c9⟩ := HB.out.ten; clear hb3))
    go_ret
    first | exact ⟨rfl, HA.out⟩ | exact ⟨by rw [decide_eq_true (by omega)]; rfl, HA.out⟩ | exact ⟨by rw [decide_eq_false (by omega)]; rfl, HA.out⟩

/-! ### entries that are right -/
theorem mode_empty (m : Int) : ((str (modeW m)).toList == []) = !(decide (1 ≤ m) && decide (m ≤ 3)) := by
  rw [toList_bl, bl_str]
  by_cases h : 1 ≤ m ∧ m ≤ 3
  · rw [decide_eq_true h.1, decide_eq_true h.2]
    rcases (by omega : m = 1 ∨ m = 2 ∨ m = 3) with rfl | rfl | rfl <;> rfl
  · rw [modeW, if_neg (by omega), if_neg (by omega), if_neg (by omega)]
    have : (decide (1 ≤ m) && decide (m ≤ 3)) = false := by rw [← Bool.not_eq_true, Bool.and_eq_true, decide_eq_true_eq, decide_eq_true_eq]; exact h
    rw [this]; rfl
theorem BoxAt.three {w : World} {g t : Nat} {m : Int} {a b : ByteArray} (h : BoxAt w g t #[.int .i64 m, .string a, .string b]) : w.cell? ⟨g, 0, none⟩ = some (.int .i64 m) ∧ w.cell? ⟨g, 1, none⟩ = some (.string a) ∧ w.cell? ⟨g, 2, none⟩ = some (.string b) := ⟨h.cell 0, h.cell 1, h.cell 2⟩
def prevE (l : List Ent) (k : Nat) : Option Ent := match k with | 0 => none | j + 1 => some (l.getD j default)
theorem ents_drop {n : Nat} {l : List Ent} {k : Nat} (hk : k < l.length) : entsOk n (l.drop k) (prevE l k) = (entOk n (l.getD k default) && (match prevE l k with | none => true | some q => decide (bl q.name < bl (l.getD k default).name)) && entsOk n (l.drop (k + 1)) (prevE l (k + 1))) := by
  have hd : l.drop k = l.getD k default :: l.drop (k + 1) := by
    rw [List.drop_eq_getElem_cons hk, List.getD_eq_getElem?_getD, List.getElem?_eq_getElem hk]; rfl
  rw [hd]
  rfl
theorem ent_parts (n : Nat) (e : Ent) : entOk n e = ((decide (1 ≤ e.mode) && decide (e.mode ≤ 3)) && entryName (bl e.name) && decide (e.id.size = n)) := by rw [entOk]

set_option maxHeartbeats 8000000 in
set_option maxRecDepth 100000 in
theorem rightEntries_any (w : World) (B : Nat) (A : Option Addr) (c : Nat) (l : List Ent) (n g : Nat) (h : Ents w B A l) (hB : B ≤ w.heap.size) (hg : g < w.heap.size) (hc : w.cell? ⟨g, 0, none⟩ = some (.int .i64 n)) :
    Calls Tryz.prog 43 #[.slice A l.length c, .func (.func 42) #[] #[.pointer (some ⟨g, 0, none⟩)]] w fun e w' => e = .returned (.bool (decide (l.length ≤ 512) && entsOk n l none)) ∧ Below w.heap.size w w' := by
  have HI := Lib.hid h
  have HC := Lib.hid (And.intro hc hg)
  clear h hc hg
  by_cases h8 : l.length ≤ 512
  · have i8 : ¬ (512 : Int) < l.length := by omega
    rw [decide_eq_true h8, Bool.true_and]
    go_enter Tryz.func43, Tryz.ntmps43
    go_wp2_with fail
    go_loopg [12] l.length (fun gg i wr => ∃ k : Nat, k ≤ l.length ∧ gg = l.length - k ∧ i = .int .i64 k ∧ Below w.heap.size w wr ∧ entsOk n l none = entsOk n (l.drop k) (prevE l k))
    case atStart => exact ⟨0, Nat.zero_le _, rfl, rfl, Below.refl _ _, rfl⟩
    case round =>
      obtain ⟨k, hk, rfl, rfl, hbw, heq0⟩ := hrel
      have HQ0 := Lib.hid heq0
      clear heq0
      have HBW := Lib.hid hbw
      have HI := Lib.hid (HI.out.below (hbw.mono hB))
      have HC := Lib.hid (And.intro (cell_step HC.out.1 HC.out.2 hbw) (Nat.lt_of_lt_of_le HC.out.2 hbw.size))
      clear hbw
      by_cases hlt : k < l.length
      · have h1 : (k : Int) < l.length := by omega
        have h0 : (0 : Int) ≤ k := by omega
        have heq := HQ0.out
        rw [ents_drop hlt, ent_parts] at heq
        obtain ⟨ad, rfl, hB1, hcs⟩ := HI.out k hlt
        have c0 : wr.cell? (ad.add (k * 3)) = some (.int .i64 (l.getD k default).mode) := by have := hcs 0 (by omega); rwa [show (ad.add (k * 3)).add 0 = ad.add (k * 3) from rfl] at this
        have c1 : wr.cell? ⟨(ad.add (k * 3)).block, (ad.add (k * 3)).off + 1, none⟩ = some (.string (l.getD k default).name) := hcs 1 (by omega)
        have c2 : wr.cell? ⟨(ad.add (k * 3)).block, (ad.add (k * 3)).off + 2, none⟩ = some (.string (l.getD k default).id) := hcs 2 (by omega)
        have hpv : ∀ j, k = j + 1 → ∀ W, Below wr.heap.size wr W → W.cell? ⟨(ad.add (j * 3)).block, (ad.add (j * 3)).off + 1, none⟩ = some (.string (l.getD j default).name) := fun j hj W hb => by
          obtain ⟨ad', e, h1, h2⟩ := (HI.out.below (hb.mono HBW.out.size |> fun h => h.mono hB)) j (by omega)
          obtain rfl : ad = ad' := Option.some.inj e
          exact h2 1 (by omega)
        have HPV := Lib.hid hpv
        have HK := Lib.hid (show ∀ X : Bool, entsOk n l none = X → Ending.returned (.bool (entsOk n l none)) = .returned (.bool X) from fun X h => by rw [h])
        have HP := Lib.hid (one_new wr 44 #[.int .i64 (l.getD k default).mode, .string (l.getD k default).name, .string (l.getD k default).id])
        have HM := Lib.hid (fun W => pmode_any (l.getD k default).mode W)
        have hem := mode_empty (l.getD k default).mode
        have HE := Lib.hid (fun W => pentName_any (l.getD k default).name W)
        have HN := Lib.hid (fun W hcell => named_any (l.getD k default).id n g W hcell)
        clear hcs hpv
        generalize l.getD k default = x at *
        have HEQ := Lib.hid heq
        clear heq
        obtain ⟨em, hmo⟩ : ∃ em, str (modeW x.mode) = em := ⟨_, rfl⟩
        rw [hmo] at HM hem
        clear hmo
        generalize (decide (1 ≤ x.mode) && decide (x.mode ≤ 3)) = b0 at *
        generalize entryName (bl x.name) = b1 at *
        generalize decide (x.id.size = n) = b2 at *
        have hem2 : em.toList.isEmpty = !b0 := by rw [← hem]; cases em.toList <;> rfl
        clear hem
        cases b0 with
        | false =>
          have HX := Lib.hid (show entsOk n l none = false from by rw [HEQ.out]; simp)
          clear HEQ
          go_wp2_with (first
            | (go_at_call 51; refine (HM.out _).mono ?_; rintro r w2 ⟨rfl, rfl⟩)
            | (go_at_call 20; refine (HE.out _).mono ?_; rintro r w3 ⟨rfl, hb3⟩; have HP := Lib.hid (HP.out.step hb3); obtain ⟨e0, e1, e2⟩ := HP.out.a.three; clear hb3)
            | (go_at_call 42; refine (HN.out _ (cell_step HC.out.1 HC.out.2 HP.out.below)).mono ?_; rintro r w4 ⟨rfl, rfl⟩))
          go_ret
          exact ⟨by rw [HX.out]; rfl, HBW.out.trans (HP.out.below.mono HBW.out.size)⟩
        | true =>
          cases b1 with
          | false =>
            have HX := Lib.hid (show entsOk n l none = false from by rw [HEQ.out]; simp)
            clear HEQ
            go_wp2_with (first
            | (go_at_call 51; refine (HM.out _).mono ?_; rintro r w2 ⟨rfl, rfl⟩)
            | (go_at_call 20; refine (HE.out _).mono ?_; rintro r w3 ⟨rfl, hb3⟩; have HP := Lib.hid (HP.out.step hb3); obtain ⟨e0, e1, e2⟩ := HP.out.a.three; clear hb3)
            | (go_at_call 42; refine (HN.out _ (cell_step HC.out.1 HC.out.2 HP.out.below)).mono ?_; rintro r w4 ⟨rfl, rfl⟩))
            go_ret
            exact ⟨by rw [HX.out]; rfl, HBW.out.trans (HP.out.below.mono HBW.out.size)⟩
          | true =>
            cases b2 with
            | false =>
              have HX := Lib.hid (show entsOk n l none = false from by rw [HEQ.out]; simp)
              clear HEQ
              go_wp2_with (first
            | (go_at_call 51; refine (HM.out _).mono ?_; rintro r w2 ⟨rfl, rfl⟩)
            | (go_at_call 20; refine (HE.out _).mono ?_; rintro r w3 ⟨rfl, hb3⟩; have HP := Lib.hid (HP.out.step hb3); obtain ⟨e0, e1, e2⟩ := HP.out.a.three; clear hb3)
            | (go_at_call 42; refine (HN.out _ (cell_step HC.out.1 HC.out.2 HP.out.below)).mono ?_; rintro r w4 ⟨rfl, rfl⟩))
              go_ret
              exact ⟨by rw [HX.out]; rfl, HBW.out.trans (HP.out.below.mono HBW.out.size)⟩
            | true =>
              rw [Bool.true_and, Bool.true_and, Bool.true_and] at HEQ
              by_cases hz : (0 : Int) < k
              · obtain ⟨j, hj⟩ : ∃ j : Nat, k = j + 1 := ⟨k - 1, by omega⟩
                have HJ := Lib.hid hj
                have w1 : IntKind.i64.wrap ((k : Int) - 1) = (j : Int) := by rw [show ((k : Int) - 1) = j by omega]; exact IntWalk.i64_in _ (by omega)
                have dz : decide (0 < k) = true := decide_eq_true (by omega)
                have j0 : (0 : Int) ≤ j := by omega
                have j1 : (j : Int) < l.length := by omega
                have HPJ := Lib.hid (HPV.out j hj)
                have hpe : prevE l k = some (l.getD j default) := by rw [hj]; rfl
                rw [hpe] at HEQ
                clear hj hpe
                generalize l.getD j default = y at *
                cases hl : Op.bytesLess y.name.toList x.name.toList with
                | false =>
                  have HX := Lib.hid (show entsOk n l none = false from by
                    rw [HEQ.out]
                    have : decide (bl y.name < bl x.name) = false := by rw [← bytesLess_eq, ← toList_bl, ← toList_bl]; exact hl
                    simp only [this, Bool.false_and])
                  clear HEQ
                  go_upto_region 8 with (first
            | (go_at_call 51; refine (HM.out _).mono ?_; rintro r w2 ⟨rfl, rfl⟩)
            | (go_at_call 20; refine (HE.out _).mono ?_; rintro r w3 ⟨rfl, hb3⟩; have HP := Lib.hid (HP.out.step hb3); obtain ⟨e0, e1, e2⟩ := HP.out.a.three; clear hb3)
            | (go_at_call 42; refine (HN.out _ (cell_step HC.out.1 HC.out.2 HP.out.below)).mono ?_; rintro r w4 ⟨rfl, rfl⟩))
                  have cp := HPJ.out _ HP.out.below
                  refine wp_region_still_lit (by kernel_rfl) (by kernel_rfl) ?_
                  change wpStill _ _ (World.drew _) (fun a' => Exit.then _ _ _ a' (World.drew _)) _ _
                  iterate 3 still_step
                  iterate 9 ((with_reducible refine wpStill_step ?_); intro K hK; go_simp; refine hK _ ?_; clear hK K)
                  still_step
                  refine wpStill_nil ?_
                  go_wp2
                  go_ret
                  exact ⟨by rw [HX.out]; rfl, (HBW.out.trans (HP.out.below.mono HBW.out.size)).drew⟩
                | true =>
                  have HX := Lib.hid (show entsOk n l none = entsOk n (l.drop (k + 1)) (prevE l (k + 1)) from by
                    rw [HEQ.out]
                    have : decide (bl y.name < bl x.name) = true := by rw [← bytesLess_eq, ← toList_bl, ← toList_bl]; exact hl
                    simp only [this, Bool.true_and])
                  clear HEQ
                  go_upto_region 8 with (first
            | (go_at_call 51; refine (HM.out _).mono ?_; rintro r w2 ⟨rfl, rfl⟩)
            | (go_at_call 20; refine (HE.out _).mono ?_; rintro r w3 ⟨rfl, hb3⟩; have HP := Lib.hid (HP.out.step hb3); obtain ⟨e0, e1, e2⟩ := HP.out.a.three; clear hb3)
            | (go_at_call 42; refine (HN.out _ (cell_step HC.out.1 HC.out.2 HP.out.below)).mono ?_; rintro r w4 ⟨rfl, rfl⟩))
                  have cp := HPJ.out _ HP.out.below
                  refine wp_region_still_lit (by kernel_rfl) (by kernel_rfl) ?_
                  change wpStill _ _ (World.drew _) (fun a' => Exit.then _ _ _ a' (World.drew _)) _ _
                  iterate 3 still_step
                  iterate 9 ((with_reducible refine wpStill_step ?_); intro K hK; go_simp; refine hK _ ?_; clear hK K)
                  still_step
                  refine wpStill_nil ?_
                  go_wp2
                  go_roundg (l.length - (k + 1))
                  case rel => exact ⟨k + 1, by omega, rfl, by go_num, (HBW.out.trans (HP.out.below.mono HBW.out.size)).drew, HX.out⟩
                  case measure => omega
              · have dz : decide (0 < k) = false := decide_eq_false (by omega)
                have HX := Lib.hid (show entsOk n l none = entsOk n (l.drop (k + 1)) (prevE l (k + 1)) from by
                  rw [HEQ.out, show prevE l k = none from by rw [show k = 0 by omega]; rfl]
                  simp only [Bool.true_and])
                clear HEQ
                go_upto_region 8 with (first
            | (go_at_call 51; refine (HM.out _).mono ?_; rintro r w2 ⟨rfl, rfl⟩)
            | (go_at_call 20; refine (HE.out _).mono ?_; rintro r w3 ⟨rfl, hb3⟩; have HP := Lib.hid (HP.out.step hb3); obtain ⟨e0, e1, e2⟩ := HP.out.a.three; clear hb3)
            | (go_at_call 42; refine (HN.out _ (cell_step HC.out.1 HC.out.2 HP.out.below)).mono ?_; rintro r w4 ⟨rfl, rfl⟩))
                refine wp_region_still_lit (by kernel_rfl) (by kernel_rfl) ?_
                change wpStill _ _ (World.drew _) (fun a' => Exit.then _ _ _ a' (World.drew _)) _ _
                iterate 3 still_step
                iterate 9 ((with_reducible refine Hw.wpStill_skip ?_ ?_); rfl; go_simp)
                still_step
                refine wpStill_nil ?_
                go_wp2
                go_roundg (l.length - (k + 1))
                case rel => exact ⟨k + 1, by omega, rfl, by go_num, (HBW.out.trans (HP.out.below.mono HBW.out.size)).drew, HX.out⟩
                case measure => omega
      · have h1 : ¬ (k : Int) < l.length := by omega
        have HX := Lib.hid (show entsOk n l none = true from by rw [HQ0.out, List.drop_of_length_le (by omega)]; rfl)
        go_wp2
        go_ret
        exact ⟨by rw [HX.out]; rfl, HBW.out⟩
  · have i8 : (512 : Int) < l.length := by omega
    rw [decide_eq_false h8, Bool.false_and]
    go_enter Tryz.func43, Tryz.ntmps43
    go_wp2_with fail
    go_ret
    exact ⟨rfl, Below.refl _ _⟩
end Go.Proofs.YtapjgdhdgpakhaaGreatDoor.Hj
