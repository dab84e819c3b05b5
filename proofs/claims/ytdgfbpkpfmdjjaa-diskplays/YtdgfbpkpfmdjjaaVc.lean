/-
  The document's Done, Seen and Taken (layer 7).
-/
import Derived.Test.YtdgfbpkpfmdjjaaVb
namespace Go.Proofs.Ytdgfbpkpfmdjjaa.Hk
open Go.RowKit Hr Hw
set_option linter.unusedVariables false

theorem own_ge {w : World} {b b' n c : Nat} {A : Option Addr} {ad : Addr} {e : TypeId} {k : Nat} {xs : List Value} (h : w.ownsRow b e k (.slice A n c) n xs) (hb : b' ≤ b) (ha : A = some ad) : b' ≤ ad.block := Nat.le_trans hb (h.lt ad.block (by rw [ha]; rfl)).1
theorem fls_own {w : World} {b n : Nat} {v : Value} {l : List Fl} (h : w.ownsRow b 78 2 v n (l.flatMap fcells)) : ∃ A c, v = .slice A l.length c ∧ Fls w w.heap.size A l := by
  obtain ⟨A, c, h1, _, h2⟩ := recs_own fcells_len (by omega) h
  exact ⟨A, c, h1, h2⟩

set_option maxHeartbeats 2000000 in
set_option maxRecDepth 100000 in
theorem done_any (w : World) (B : Nat) (A : Option Addr) (c : Nat) (l : List Fl) (e : Ef) (h : Fls w B A l) (hB : B ≤ w.heap.size) (hl : l.length ≤ 4000) :
    Calls Try.prog 34 #[.slice A l.length c, .agg #[.int .i64 e.1, .string e.2.1, .string e.2.2]] w fun r w' => (∃ A2 c2, r = .returned (.slice A2 (doneF l e).length c2) ∧ Fls w' w'.heap.size A2 (doneF l e) ∧ ((A2 = A ∧ doneF l e = l) ∨ ∀ ad, A2 = some ad → w.heap.size ≤ ad.block)) ∧ Below w.heap.size w w' := by
  obtain ⟨kd, p, t⟩ := e
  simp only
  have hbx : Below w.heap.size w (w.alloc (.cells #[.int .i64 kd, .string p, .string t] 46)) := (Below.refl _ w).alloc (Nat.le_refl _) _
  have hbk := heap_alloc_new w (.cells #[.int .i64 kd, .string p, .string t] 46)
  have hsz : (w.alloc (.cells #[.int .i64 kd, .string p, .string t] 46)).heap.size = w.heap.size + 1 := by simp
  have hx : Fls (w.alloc (.cells #[.int .i64 kd, .string p, .string t] 46)) B A l := h.below (hbx.mono hB)
  have HX := Lib.hid (And.intro hx (And.intro hbx (And.intro hbk hsz)))
  clear h hbx hbk hsz hx
  by_cases h1 : kd = 1
  · subst h1
    have HC := Lib.hid (with_any _ B A c l (p, t) HX.out.1 (by rw [HX.out.2.2.2]; omega) (by omega))
    have HD := Lib.hid (show doneF l (1, p, t) = withF l (p, t) from by simp [doneF])
    rw [HD.out]
    generalize withF l (p, t) = R at *
    go_enter Try.func34, Try.ntmps34
    go_wp2_with fail
    refine HC.out.mono ?_
    rintro r w2 ⟨⟨A2, c2, rfl, hown⟩, hb2⟩
    obtain ⟨A3, c3, e3, hf⟩ := fls_own hown
    injection e3 with e3 _ e4
    subst e3 e4
    have HF := Lib.hid (And.intro hf (And.intro (HX.out.2.1.trans (hb2.mono (by rw [HX.out.2.2.2]; omega))) (fun ad (ha : A2 = some ad) => own_ge hown (show w.heap.size ≤ _ by rw [HX.out.2.2.2]; omega) ha)))
    clear hown hf hb2 HC
    go_wp2
    go_ret
    exact ⟨⟨A2, c2, rfl, HF.out.1, .inr HF.out.2.2⟩, HF.out.2.1⟩
  · have hb1 : (kd == 1) = false := by simpa using h1
    by_cases h2 : kd = 2
    · subst h2
      have HC := Lib.hid (find_any _ B A c l p HX.out.1 (by omega))
      cases hfd : findF l p with
      | none =>
        have HD := Lib.hid (show doneF l (2, p, t) = l from by simp [doneF, hfd])
        rw [HD.out]
        rw [hfd] at HC
        clear hfd
        go_enter Try.func34, Try.ntmps34
        go_wp2_with fail
        refine HC.out.mono ?_
        rintro r w2 ⟨rfl, rfl⟩
        have HF := Lib.hid (And.intro (HX.out.1.mono (Nat.le_trans hB HX.out.2.1.size)) HX.out.2.1)
        clear HC
        go_wp2
        go_ret
        exact ⟨⟨A, c, rfl, HF.out.1, .inl (by simp)⟩, HF.out.2⟩
      | some tx =>
        have HD := Lib.hid (show doneF l (2, p, t) = withF (withoutF l p) (t, tx) from by simp [doneF, hfd])
        rw [HD.out]
        rw [hfd, show texOf (some tx) = tx from rfl] at HC
        clear hfd
        have hw9 := withoutF_len l p
        go_enter Try.func34, Try.ntmps34
        go_wp2_with fail
        refine HC.out.mono ?_
        rintro r w2 ⟨rfl, hw2⟩
        rw [← hw2] at HX
        clear HC hw2
        have k1 : w2.cell? ⟨w.heap.size, 1, none⟩ = some (.string p) := by simp [World.cell?, HX.out.2.2.1]
        have k2 : w2.cell? ⟨w.heap.size, 2, none⟩ = some (.string t) := by simp [World.cell?, HX.out.2.2.1]
        have hz2 : w.heap.size < w2.heap.size := by rw [HX.out.2.2.2]; omega
        go_wp2_with fail
        refine wp_region_seq (fun W => W.cell? ⟨w.heap.size, 1, none⟩ = some (.string p) ∧ W.cell? ⟨w.heap.size, 2, none⟩ = some (.string t)) [(0, false, 0), (1, false, 1), (2, false, 3), (4, false, 7), (5, false, 23), (6, false, 55), (7, false, 119), (3, true, 247), (8, true, 255), (9, false, 511)]
          10 (by kernel_rfl) (by kernel_rfl) (by kernel_rfl) (fun d _ _ _ _ h => by cases d <;> exact h) (by kernel_rfl) (by kernel_rfl) ⟨by rw [World.cell?_drew]; exact k1, by rw [World.cell?_drew]; exact k2⟩ ?_
        have hbd : Below w2.heap.size w2 w2.drew := (Below.refl _ w2).drew
        generalize w2.drew = w3 at *
        have hz3 := hbd.size
        have HB3 := Lib.hid (HX.out.2.1.trans (hbd.mono (by omega)))
        have hx3 := (HX.out.1.below (hbd.mono (by omega : B ≤ w2.heap.size)))
        have HX3 := Lib.hid hx3
        have m1 : w3.cell? ⟨w.heap.size, 1, none⟩ = some (.string p) := (hbd.cell (p := ⟨w.heap.size, 1, none⟩) hz2).trans k1
        have m2 : w3.cell? ⟨w.heap.size, 2, none⟩ = some (.string t) := (hbd.cell (p := ⟨w.heap.size, 2, none⟩) hz2).trans k2
        clear hbd hx3 k1 k2 HX
        refine seqH_take (.slice A l.length c) rfl (Or.inl ⟨by rfl, fun W hW => by go_simp⟩) ?_
        go_simp
        refine seqH_take (.pointer (some ⟨w.heap.size, 1, none⟩)) rfl (Or.inl ⟨by rfl, fun W hW => by go_simp⟩) ?_
        go_simp
        refine seqH_take (.string p) rfl (Or.inl ⟨by rfl, fun W hW => by have hcell := hW.1; clear hW; go_simp⟩) ?_
        go_simp
        refine seqH_take (.pointer (some ⟨w.heap.size, 2, none⟩)) rfl (Or.inl ⟨by rfl, fun W hW => by go_simp⟩) ?_
        go_simp
        refine seqH_take (.string t) rfl (Or.inl ⟨by rfl, fun W hW => by have hcell := hW.2; clear hW; go_simp⟩) ?_
        go_simp
        refine seqH_take (.string tx) rfl (Or.inl ⟨by rfl, fun W hW => by go_simp⟩) ?_
        go_simp
        refine seqH_take (.agg #[.string t, .string tx]) rfl (Or.inl ⟨by rfl, fun W hW => by go_simp⟩) ?_
        go_simp
        refine seqH_call rfl (by rfl) (fun K hK => ?_)
        have HK := Lib.hid hK
        clear hK
        go_simp
        refine (without_any w3 B A c l p HX3.out (by omega) (by omega)).mono ?_
        rintro r w4 ⟨⟨A4, c4, rfl, hown4⟩, hb4⟩
        refine HK.out _ _ ⟨(hb4.cell (p := ⟨w.heap.size, 1, none⟩) (by show w.heap.size < _; omega)).trans m1, (hb4.cell (p := ⟨w.heap.size, 2, none⟩) (by show w.heap.size < _; omega)).trans m2⟩ ?_
        clear HK K
        go_simp
        refine seqH_call rfl (by rfl) (fun K hK => ?_)
        have HK := Lib.hid hK
        clear hK
        obtain ⟨A5, c5, e5, hf5⟩ := fls_own hown4
        injection e5 with e5 _ e6
        subst e5 e6
        have hz4 := hb4.size
        have hc5 := with_any w4 w4.heap.size A4 c4 (withoutF l p) (t, tx) hf5 (Nat.le_refl _) (by omega)
        have HC5 := Lib.hid hc5
        clear hc5 hf5 hown4
        go_simp
        refine HC5.out.mono ?_
        rintro r w6 ⟨⟨A6, c6, rfl, hown6⟩, hb6⟩
        refine HK.out _ _ ⟨(hb6.cell (p := ⟨w.heap.size, 1, none⟩) (by show w.heap.size < _; omega)).trans ((hb4.cell (p := ⟨w.heap.size, 1, none⟩) (by show w.heap.size < _; omega)).trans m1), (hb6.cell (p := ⟨w.heap.size, 2, none⟩) (by show w.heap.size < _; omega)).trans ((hb4.cell (p := ⟨w.heap.size, 2, none⟩) (by show w.heap.size < _; omega)).trans m2)⟩ ?_
        clear HK K HC5
        obtain ⟨A7, c7, e7, hf7⟩ := fls_own hown6
        injection e7 with e7 _ e8
        subst e7 e8
        go_simp
        refine seqH_take (.slice A6 (withF (withoutF l p) (t, tx)).length c6) rfl (Or.inl ⟨by rfl, fun W hW => by go_simp⟩) ?_
        go_simp
        refine seqH_done ?_
        have HF := Lib.hid (And.intro hf7 (And.intro (HB3.out.trans ((hb4.trans (hb6.mono hz4)).mono (by omega))) (fun ad (ha : A6 = some ad) => own_ge hown6 (show w.heap.size ≤ _ by omega) ha)))
        clear hf7 hown6 hb6 hb4 m1 m2
        go_wp2
        go_ret
        first | exact ⟨⟨A6, c6, rfl, HF.out.1, .inr HF.out.2.2⟩, HF.out.2.1⟩ | exact ⟨⟨A6, ⟨c6, rfl⟩, HF.out.1, .inr HF.out.2.2⟩, HF.out.2.1⟩
    · have hb2 : (kd == 2) = false := by simpa using h2
      have HC := Lib.hid (without_any _ B A c l p HX.out.1 (by rw [HX.out.2.2.2]; omega) (by omega))
      have HD := Lib.hid (show doneF l (kd, p, t) = withoutF l p from by simp [doneF, h1, h2])
      rw [HD.out]
      generalize withoutF l p = R at *
      go_enter Try.func34, Try.ntmps34
      go_wp2_with fail
      refine HC.out.mono ?_
      rintro r w2 ⟨⟨A2, c2, rfl, hown⟩, hb2'⟩
      obtain ⟨A3, c3, e3, hf⟩ := fls_own hown
      injection e3 with e3 _ e4
      subst e3 e4
      have HF := Lib.hid (And.intro hf (And.intro (HX.out.2.1.trans (hb2'.mono (by rw [HX.out.2.2.2]; omega))) (fun ad (ha : A2 = some ad) => own_ge hown (show w.heap.size ≤ _ by rw [HX.out.2.2.2]; omega) ha)))
      clear hown hf hb2' HC
      go_wp2
      go_ret
      exact ⟨⟨A2, c2, rfl, HF.out.1, .inr HF.out.2.2⟩, HF.out.2.1⟩

/-! ### a disk's value -/
structure Dsk where
  room : Int
  lies : List Fl
  rows : List Ef
  down : Bool
  at_ : Int
  keep : Int
  left : Int
def DkV (w : World) (B : Nat) (v : Value) (d : Dsk) : Prop :=
  ∃ Al cl Ar cr, v = .agg #[.int .i64 d.room, .slice Al d.lies.length cl, .slice Ar d.rows.length cr, .bool d.down, .int .i64 d.at_, .int .u64 d.keep, .int .i64 d.left] ∧ Fls w B Al d.lies ∧ Efs w B Ar d.rows
theorem DkV.below {w w' : World} {B : Nat} {v : Value} {d : Dsk} (h : DkV w B v d) (hb : Below B w w') : DkV w' B v d := by
  obtain ⟨Al, cl, Ar, cr, h1, h2, h3⟩ := h
  exact ⟨Al, cl, Ar, cr, h1, h2.below hb, h3.below hb⟩
theorem DkV.mono {w : World} {B B' : Nat} {v : Value} {d : Dsk} (h : DkV w B v d) (hb : B ≤ B') : DkV w B' v d := by
  obtain ⟨Al, cl, Ar, cr, h1, h2, h3⟩ := h
  exact ⟨Al, cl, Ar, cr, h1, h2.mono hb, h3.mono hb⟩

/-- what a slice reads lies below B, or from N on -/
def Blk {α : Type} (B N : Nat) (A : Option Addr) (l : List α) : Prop := l ≠ [] → ∀ ad, A = some ad → ad.block < B ∨ N ≤ ad.block
theorem blk_recs {α : Type} [Inhabited α] {k : Nat} {f : α → List Value} {w : World} {B N : Nat} {A : Option Addr} {l : List α} (h : Recs k f w B A l) : Blk B N A l := fun hn ad ha => by
  obtain ⟨ad', e, hlt, _⟩ := h 0 (List.length_pos_iff.2 hn)
  rw [ha] at e
  injection e with e
  subst e
  exact .inl hlt
theorem blk_mono {α : Type} {B N N' : Nat} {A : Option Addr} {l : List α} (h : Blk B N A l) (hN : N' ≤ N) : Blk B N' A l := fun hn ad ha => (h hn ad ha).imp id (Nat.le_trans hN)
theorem blk_done {B N N' : Nat} {A A2 : Option Addr} {l l2 : List Fl} (h : Blk B N A l) (ha : (A2 = A ∧ l2 = l) ∨ ∀ ad, A2 = some ad → N' ≤ ad.block) (hN : N ≤ N') : Blk B N A2 l2 := fun hn ad hx => by
  rcases ha with ⟨e, e'⟩ | h9
  · rw [e'] at hn; rw [e] at hx; exact h hn ad hx
  · exact .inr (Nat.le_trans hN (h9 ad hx))
/-- a disk's value whose slices lie below B, or from N on -/
def DkN (w : World) (B N : Nat) (v : Value) (d : Dsk) : Prop :=
  ∃ Al cl Ar cr, v = .agg #[.int .i64 d.room, .slice Al d.lies.length cl, .slice Ar d.rows.length cr, .bool d.down, .int .i64 d.at_, .int .u64 d.keep, .int .i64 d.left] ∧ Fls w w.heap.size Al d.lies ∧ Efs w w.heap.size Ar d.rows ∧ Blk B N Al d.lies ∧ Blk B N Ar d.rows
theorem DkN.dk {w : World} {B N : Nat} {v : Value} {d : Dsk} (h : DkN w B N v d) : DkV w w.heap.size v d := by
  obtain ⟨Al, cl, Ar, cr, h1, h2, h3, _⟩ := h
  exact ⟨Al, cl, Ar, cr, h1, h2, h3⟩

/-! ### Seen -/
theorem seenF_succ {l : List Fl} {rs : List Ef} {i : Nat} (hi : i < rs.length) : seenF l (rs.take (i + 1)) = doneF (seenF l (rs.take i)) (rs.getD i default) := by
  rw [List.take_add_one, List.getElem?_eq_getElem hi]
  simp only [seenF, Option.toList_some, List.foldl_append, List.foldl_cons, List.foldl_nil, List.getD, List.getElem?_eq_getElem hi, Option.getD_some]
set_option maxHeartbeats 2000000 in
set_option maxRecDepth 100000 in
theorem seen_any (w : World) (B : Nat) (v : Value) (d : Dsk) (h : DkV w B v d) (hB : B ≤ w.heap.size) (hl : d.lies.length + d.rows.length ≤ 3000) :
    Calls Try.prog 17 #[v] w fun r w' => (∃ A2 c2, r = .returned (.slice A2 (seenF d.lies d.rows).length c2) ∧ Fls w' w'.heap.size A2 (seenF d.lies d.rows) ∧ Blk B w.heap.size A2 (seenF d.lies d.rows)) ∧ Below w.heap.size w w' := by
  obtain ⟨Al, cl, Ar, cr, rfl, hf, he⟩ := h
  obtain ⟨room, lies, rs, down, at_, keep, left⟩ := d
  simp only at hf he hl ⊢
  have hbx : Below w.heap.size w (w.alloc (.cells #[.int .i64 room, .slice Al lies.length cl, .slice Ar rs.length cr, .bool down, .int .i64 at_, .int .u64 keep, .int .i64 left] 35)) := (Below.refl _ w).alloc (Nat.le_refl _) _
  have hbk := heap_alloc_new w (.cells #[.int .i64 room, .slice Al lies.length cl, .slice Ar rs.length cr, .bool down, .int .i64 at_, .int .u64 keep, .int .i64 left] 35)
  have hsz : (w.alloc (.cells #[.int .i64 room, .slice Al lies.length cl, .slice Ar rs.length cr, .bool down, .int .i64 at_, .int .u64 keep, .int .i64 left] 35)).heap.size = w.heap.size + 1 := by simp
  have HX := Lib.hid (And.intro (hf.below (hbx.mono hB)) (And.intro (he.below (hbx.mono hB)) (And.intro hbx (And.intro hbk hsz))))
  clear hf he hbx hbk hsz
  go_enter Try.func17, Try.ntmps17
  go_wp2
  generalize w.alloc (.cells #[.int .i64 room, .slice Al lies.length cl, .slice Ar rs.length cr, .bool down, .int .i64 at_, .int .u64 keep, .int .i64 left] 35) = wb at *
  have k2 : wb.cell? ⟨w.heap.size, 2, none⟩ = some (.slice Ar rs.length cr) := by simp [World.cell?, HX.out.2.2.2.1]
  have hzb : w.heap.size < wb.heap.size := by rw [HX.out.2.2.2.2]; omega
  go_loopg [3, 4] rs.length (fun g v i wr => ∃ (j : Nat) (A2 : Option Addr) (c2 : Nat), j ≤ rs.length ∧ g = rs.length - j ∧ i = .int .i64 j ∧ v = .slice A2 (seenF lies (rs.take j)).length c2 ∧ Fls wr wr.heap.size A2 (seenF lies (rs.take j)) ∧ Blk B w.heap.size A2 (seenF lies (rs.take j)) ∧ Below wb.heap.size wb wr)
  case atStart => exact ⟨0, Al, cl, Nat.zero_le _, rfl, rfl, rfl, HX.out.1.mono (by omega), blk_recs HX.out.1, Below.refl _ _⟩
  case round =>
    obtain ⟨j, A2, c2, hj, rfl, rfl, rfl, hfl, hbk, hbl⟩ := hrel
    have kr : wr.cell? ⟨w.heap.size, 2, none⟩ = some (.slice Ar rs.length cr) := (hbl.cell (p := ⟨w.heap.size, 2, none⟩) hzb).trans k2
    by_cases hlt : j < rs.length
    · have h1 : (j : Int) < rs.length := by omega
      have h0 : (0 : Int) ≤ j := by omega
      obtain ⟨ad, rfl, hB1, hc⟩ := (HX.out.2.1.below (hbl.mono (by omega))) j hlt
      have c0 : wr.cell? (ad.add (j * 3)) = some (.int .i64 (rs.getD j default).1) := hc 0 (by omega)
      have c1 : wr.cell? ⟨(ad.add (j * 3)).block, (ad.add (j * 3)).off + 1, none⟩ = some (.string (rs.getD j default).2.1) := hc 1 (by omega)
      have c2' : wr.cell? ⟨(ad.add (j * 3)).block, (ad.add (j * 3)).off + 2, none⟩ = some (.string (rs.getD j default).2.2) := hc 2 (by omega)
      have hsl := seenF_len (rs.take j) lies
      have htl : (rs.take j).length = j := by rw [List.length_take]; omega
      have HC := Lib.hid (done_any wr wr.heap.size A2 c2 (seenF lies (rs.take j)) (rs.getD j default) hfl (Nat.le_refl _) (by omega))
      rw [← seenF_succ hlt] at HC
      have HB := Lib.hid hbl
      have HBK := Lib.hid hbk
      have hzr := hbl.size
      generalize rs.getD j default = x at *
      generalize seenF lies (rs.take j) = sj at *
      clear hc hfl hbl hsl htl hbk
      go_wp2_with fail
      refine HC.out.mono ?_
      rintro r w2 ⟨⟨A3, c3, rfl, hf3, hal⟩, hb3⟩
      have HF := Lib.hid (And.intro hf3 (And.intro (blk_done HBK.out hal (by omega)) (HB.out.trans (hb3.mono hzr))))
      clear hf3 hb3 HC HB hal HBK
      go_wp2
      go_roundg (rs.length - (j + 1))
      case rel => exact ⟨j + 1, A3, c3, by omega, rfl, by go_num, rfl, HF.out.1, HF.out.2.1, HF.out.2.2⟩
      case measure => omega
    · obtain rfl : j = rs.length := by omega
      rw [List.take_length] at hfl hbk
      rw [List.take_length]
      have HF := Lib.hid (And.intro hfl (And.intro hbk (HX.out.2.2.1.trans (hbl.mono (by omega)))))
      clear hfl hbl hbk
      go_wp2
      go_ret
      exact ⟨⟨A2, c2, rfl, HF.out.1, HF.out.2.1⟩, HF.out.2.2⟩
end Go.Proofs.Ytdgfbpkpfmdjjaa.Hk
