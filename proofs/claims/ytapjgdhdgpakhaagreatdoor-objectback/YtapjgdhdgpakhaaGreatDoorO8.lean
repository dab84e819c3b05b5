/-
  Layer 11, the program's side: what stands ahead of the text of a blob, a commit, a tag (head).
-/
import Derived.Test.YtapjgdhdgpakhaaGreatDoorO7
namespace Go.Proofs.YtapjgdhdgpakhaaGreatDoor.Hj
open Go.RowKit Ob Hr
set_option linter.unusedVariables false

theorem parC_snoc {l : List ByteArray} {k : Nat} (hk : k < l.length) : parC (l.take (k + 1)) = parC (l.take k) ++ line wParent (M.digs (bl (l.getD k ByteArray.empty))) := by
  rw [List.take_add_one, List.getD_eq_getElem?_getD, List.getElem?_eq_getElem hk]
  show List.flatMap _ (l.take k ++ [l[k]]) = _
  rw [List.flatMap_append]
  exact congrArg (parC (l.take k) ++ ·) (List.append_nil _)
theorem digs_size (l : List UInt8) : (M.digs l).length = 2 * l.length := by
  induction l with
  | nil => rfl
  | cons c r ih => simp only [M.digs, List.length_cons, ih]; omega
theorem parC_size {N : Nat} : ∀ {l : List ByteArray}, (∀ p ∈ l, p.size = N) → N ≤ 32 → (parC l).length ≤ 80 * l.length
  | [], _, _ => by simp [parC]
  | e :: l, h, hN => by
    have ih := parC_size (l := l) (fun x hx => h x (by simp [hx])) hN
    have h1 := h e (by simp)
    simp only [parC, List.flatMap_cons, line, wParent, List.length_append, List.length_cons, List.length_nil, digs_size, bl_length] at ih ⊢
    omega
theorem hvLine_any (w W' : World) (o : Thing) (A : Option Addr) (c : Nat) (P : Option Addr) (d : Nat) (l : List UInt8) (a b : ByteArray) (bk : Nat) (hv : Hv w W' o A c P d l) (hc : ∀ (j : Nat) x, [a, b][j]? = some x → W'.cell? ⟨bk, j, none⟩ = some (.string x)) (hbk : bk < W'.heap.size)
    (ha : a.size ≤ 1000) (hb : b.size ≤ 100000) (hl : l.length ≤ 100000) :
    Calls Tryz.prog 46 #[.slice (some ⟨bk, 0, none⟩) 2 2, .pointer (some ⟨w.heap.size + 1, 0, none⟩)] W' fun e W2 => e = .returned (.tuple #[]) ∧ Hv w W2 o A c P d (l ++ line (bl a) (bl b)) :=
  (line_any w.heap.size (w.heap.size + 1) bk 2 [a, b] l W' hv.bd hv.below.size hc hbk (Nat.le_refl _) (by simp) (by rw [join2]; simp only [List.length_append, List.length_cons, bl_length]; omega) (by omega)).mono (by
    rintro e W2 ⟨rfl, k1, k2, k3⟩
    refine ⟨rfl, hv.turn ?_ k2 k3⟩
    rw [join2] at k1
    rw [show l ++ line (bl a) (bl b) = l ++ (bl a ++ 32 :: bl b) ++ [10] from by simp [line]]
    exact k1)
theorem dg_line (wd : ByteArray) (l : List UInt8) : line (bl wd) (bl (str l)) = line (bl wd) l := by rw [bl_str]

set_option maxHeartbeats 4000000 in
set_option maxRecDepth 100000 in
theorem headBlob_any (o : Thing) (A : Option Addr) (c : Nat) (P : Option Addr) (d : Nat) (w : World) (hk : o.kind = 1) :
    Calls Tryz.prog 25 #[.agg (objC o A c P d)] w fun e w' => e = .returned (.string (str [])) ∧ Below w.heap.size w w' := by
  have hmf : ∀ (fn : Fn) (first cap : Array Value) (w : World), (Instr.makeFunc fn first cap).run Tryz.prog w = .ok (.func fn first cap) w := fun _ _ _ _ => rfl
  have HV := Lib.hid (hv_new w o A c P d)
  have HT := Lib.hid (fun W' (hv : Hv w W' o A c P d []) => text_any w.heap.size (w.heap.size + 1) [] W' hv.bd hv.below.size)
  have q1 : (o.kind == 2) = false := by rw [hk]; rfl
  have q2 : (o.kind == 3) = false := by rw [hk]; rfl
  have q3 : (o.kind == 4) = false := by rw [hk]; rfl
  clear hk
  go_enter Tryz.func25, Tryz.ntmps25
  go_wp2_with (go_at_call 53; refine (HT.out _ HV.out).mono ?_; rintro r W5 ⟨rfl, hb5⟩)
  go_ret
  exact ⟨rfl, HV.out.below.trans hb5⟩

set_option maxHeartbeats 8000000 in
set_option maxRecDepth 100000 in
theorem headCommit_any (o : Thing) (A : Option Addr) (c : Nat) (P : Option Addr) (d N : Nat) (w : World) (hL : Lies w w.heap.size o A P) (hK : Kw w) (hk : o.kind = 3) (hN : N ≤ 32) (ht : o.tree.size = N) (hl : o.parents.length ≤ 8) (hp : ∀ p ∈ o.parents, p.size = N) (hw : o.who.size ≤ 64) (h0 : 0 ≤ o.time) (h9 : o.time ≤ 2147483647) :
    Calls Tryz.prog 25 #[.agg (objC o A c P d)] w fun e w' => e = .returned (.string (str (line wTree (M.digs (bl o.tree)) ++ parC o.parents ++ line wAuthor (signC o.who o.time) ++ [10]))) ∧ Below w.heap.size w w' := by
  have hmf : ∀ (fn : Fn) (first cap : Array Value) (w : World), (Instr.makeFunc fn first cap).run Tryz.prog w = .ok (.func fn first cap) w := fun _ _ _ _ => rfl
  have HV := Lib.hid (hv_new w o A c P d)
  have HL := Lib.hid (And.intro hL.pars hp)
  have HKW := Lib.hid hK
  have q1 : (o.kind == 2) = false := by rw [hk]; rfl
  have q2 : (o.kind == 3) = true := by rw [hk]; rfl
  have q3 : (o.kind == 4) = false := by rw [hk]; rfl
  have hd1 : (str (M.digs (bl o.tree))).size ≤ 64 := by rw [str_size, digs_size, bl_length]; omega
  have hts : (line wTree (M.digs (bl o.tree))).length ≤ 100 := by rw [str_size] at hd1; simp only [line, wTree, List.length_append, List.length_cons, List.length_nil]; omega
  have HD := Lib.hid (fun W => Digits_any o.tree W (by omega))
  have HLN := Lib.hid (fun bk W' (hv : Hv w W' o A c P d []) hc hbk => hvLine_any w W' o A c P d [] ⟨#[116, 114, 101, 101]⟩ (str (M.digs (bl o.tree))) bk hv hc hbk (by decide) (by omega) (by simp))
  rw [dg_line, List.nil_append, show bl ⟨#[116, 114, 101, 101]⟩ = wTree from rfl] at HLN
  have HSG := Lib.hid (fun W' (hv : Hv w W' o A c P d (line wTree (M.digs (bl o.tree)) ++ parC o.parents)) => sign_any w W' o A c P d (line wTree (M.digs (bl o.tree)) ++ parC o.parents) ⟨#[97, 117, 116, 104, 111, 114]⟩ hv (hK.under hv.below) (by decide) (by omega) h0 h9 (by
    have := parC_size hp hN
    rw [List.length_append]; omega))
  rw [show bl ⟨#[97, 117, 116, 104, 111, 114]⟩ = wAuthor from rfl] at HSG
  clear hL hK hk hp ht hw h0 h9 hd1
  generalize line wTree (M.digs (bl o.tree)) = l1 at *
  generalize str (M.digs (bl o.tree)) = dg at *
  go_enter Tryz.func25, Tryz.ntmps25
  go_upto_region 12 with fail
  generalize ((w.alloc (.cells (objC o A c P d) 25 (0, 0))).alloc (.cells #[.pointer none, .slice none 0 0] 67 (0, 0))).alloc (.cells #[.func (.func 46) #[] #[.pointer (some ⟨w.heap.size + 1, 0, none⟩)]] 73 (0, 0)) = W0 at *
  refine wp_region_seq (fun W' => ∃ l', Hv w W' o A c P d l') [(0, false, 0), (1, false, 1), (2, false, 3), (3, true, 7), (4, true, 15), (5, true, 31)]
    6 (by kernel_rfl) (by kernel_rfl) (by kernel_rfl) (fun d _ _ _ _ h => by cases d <;> exact h) (by kernel_rfl) (by kernel_rfl) (⟨_, HV.out.drew⟩) ?_
  have HV := Lib.hid HV.out.drew
  generalize W0.drew = W1 at *
  refine seqH_take (.func (.func 46) #[] #[.pointer (some ⟨w.heap.size + 1, 0, none⟩)]) rfl (Or.inl ⟨by rfl, fun W hW => by obtain ⟨l2, hh⟩ := hW; obtain ⟨c0, c1, c2, c3, c4, c5, c6, c7, c8, c9⟩ := hh.box.ten; have hfn := hh.fn.cell 0; clear hh; go_simp⟩) ?_
  go_simp
  refine seqH_take (.pointer (some ⟨w.heap.size, 3, none⟩)) rfl (Or.inl ⟨by rfl, fun W hW => by go_simp⟩) ?_
  go_simp
  refine seqH_take (.string o.tree) rfl (Or.inl ⟨by rfl, fun W hW => by obtain ⟨l2, hh⟩ := hW; obtain ⟨c0, c1, c2, c3, c4, c5, c6, c7, c8, c9⟩ := hh.box.ten; have hfn := hh.fn.cell 0; clear hh; go_simp⟩) ?_
  go_simp
  refine seqH_call rfl (by rfl) (fun K hK => ?_)
  have HKK := Lib.hid hK
  clear hK
  go_simp
  refine (HD.out _).mono ?_
  rintro r W2 ⟨rfl, hb2⟩
  have HV := Lib.hid (HV.out.step hb2)
  clear hb2
  refine HKK.out _ _ ⟨_, HV.out⟩ ?_
  clear HKK K
  go_simp
  refine seqH_call rfl (by rfl) (fun K hK => ?_)
  have HKK := Lib.hid hK
  clear hK
  go_simp
  have HR := Lib.hid (box_new W2 9 #[.string ⟨#[116, 114, 101, 101]⟩, .string dg])
  have HV := Lib.hid (HV.out.step ((Below.refl _ W2).alloc (Nat.le_refl _) (.cells #[.string ⟨#[116, 114, 101, 101]⟩, .string dg] 9 (0, 0))))
  refine HKK.out _ _ ⟨_, HV.out⟩ ?_
  generalize W2.alloc (.cells #[.string ⟨#[116, 114, 101, 101]⟩, .string dg] 9 (0, 0)) = W3 at *
  generalize W2.heap.size = bk at *
  clear HKK K
  go_simp
  refine seqH_call rfl (by rfl) (fun K hK => ?_)
  have HKK := Lib.hid hK
  clear hK
  go_simp
  refine (HLN.out bk W3 HV.out (row_cells (xs := [⟨#[116, 114, 101, 101]⟩, dg]) HR.out) HR.out.lt).mono ?_
  rintro r W4 ⟨rfl, hv4⟩
  have HV := Lib.hid hv4
  clear hv4 HR
  refine HKK.out _ _ ⟨_, HV.out⟩ ?_
  clear HKK K
  go_simp
  refine seqH_done ?_
  obtain ⟨c0, c1, c2, c3, c4, c5, c6, c7, c8, c9⟩ := HV.out.box.ten
  go_wp2_with fail
  clear c0 c1 c2 c3 c4 c5 c6 c7 c8 c9 HD HLN
  go_loopg [47] o.parents.length (fun gg i wr => ∃ k : Nat, k ≤ o.parents.length ∧ gg = o.parents.length - k ∧ i = .int .i64 k ∧ Hv w wr o A c P d (l1 ++ parC (o.parents.take k)))
  case atStart => exact ⟨0, Nat.zero_le _, rfl, rfl, by rw [show parC (o.parents.take 0) = [] from rfl, List.append_nil]; exact HV.out⟩
  case round =>
    obtain ⟨k, hk, rfl, rfl, hv⟩ := hrel
    have HV := Lib.hid hv
    clear hv
    by_cases hlt : k < o.parents.length
    · have h1 : (k : Int) < o.parents.length := by omega
      have h0 : (0 : Int) ≤ k := by omega
      have htk : (o.parents.take k).length ≤ 8 := by rw [List.length_take]; omega
      have hps : (parC (o.parents.take k)).length ≤ 80 * 8 := by
        have := parC_size (l := o.parents.take k) (fun e he => HL.out.2 e (List.mem_of_mem_take he)) hN
        omega
      have hxm : o.parents.getD k ByteArray.empty ∈ o.parents := by rw [List.getD_eq_getElem?_getD, List.getElem?_eq_getElem hlt]; exact List.getElem_mem hlt
      have hx := HL.out.2 _ hxm
      have HSN := Lib.hid (parC_snoc hlt)
      obtain ⟨ad, rfl, hB1, c0⟩ := (Strs.below HL.out.1 HV.out.below) k hlt
      have hd1 : (str (M.digs (bl (o.parents.getD k ByteArray.empty)))).size ≤ 64 := by rw [str_size, digs_size, bl_length]; omega
      have HD := Lib.hid (fun W => Digits_any (o.parents.getD k ByteArray.empty) W (by omega))
      have HLN := Lib.hid (fun bk W' hv hc hbk => hvLine_any w W' o A c (some ad) d (l1 ++ parC (o.parents.take k)) ⟨#[112, 97, 114, 101, 110, 116]⟩ (str (M.digs (bl (o.parents.getD k ByteArray.empty)))) bk hv hc hbk (by decide) (by omega) (by rw [List.length_append]; omega))
      rw [dg_line, show bl ⟨#[112, 97, 114, 101, 110, 116]⟩ = wParent from rfl] at HLN
      have HSN := Lib.hid (show l1 ++ parC (o.parents.take (k + 1)) = l1 ++ parC (o.parents.take k) ++ line wParent (M.digs (bl (o.parents.getD k ByteArray.empty))) from by rw [HSN.out, List.append_assoc])
      clear htk hps hxm hx hd1
      generalize line wParent (M.digs (bl (o.parents.getD k ByteArray.empty))) = l2 at *
      generalize str (M.digs (bl (o.parents.getD k ByteArray.empty))) = dg2 at *
      generalize o.parents.getD k ByteArray.empty = x at *
      have hf0 := HV.out.fn.cell 0
      go_upto_region 16 with fail
      refine wp_region_seq (fun W' => ∃ l', Hv w W' o A c (some ad) d l') [(0, false, 0), (1, false, 1), (2, true, 3), (3, true, 7), (4, true, 15)]
        5 (by kernel_rfl) (by kernel_rfl) (by kernel_rfl) (fun d _ _ _ _ h => by cases d <;> exact h) (by kernel_rfl) (by kernel_rfl) (⟨_, HV.out.drew⟩) ?_
      have HV := Lib.hid HV.out.drew
      generalize wr.drew = W1 at *
      refine seqH_take (.func (.func 46) #[] #[.pointer (some ⟨w.heap.size + 1, 0, none⟩)]) rfl (Or.inl ⟨by rfl, fun W hW => by obtain ⟨l2, hh⟩ := hW; obtain ⟨c0, c1, c2, c3, c4b, c5, c6, c7, c8, c9⟩ := hh.box.ten; have hfn := hh.fn.cell 0; clear hh; go_simp⟩) ?_
      go_simp
      refine seqH_take (.string x) rfl (Or.inl ⟨by rfl, fun W hW => by go_simp⟩) ?_
      go_simp
      refine seqH_call rfl (by rfl) (fun K hK => ?_)
      have HKK := Lib.hid hK
      clear hK
      go_simp
      refine (HD.out _).mono ?_
      rintro r W2 ⟨rfl, hb2⟩
      have HV := Lib.hid (HV.out.step hb2)
      clear hb2
      refine HKK.out _ _ ⟨_, HV.out⟩ ?_
      clear HKK K
      go_simp
      refine seqH_call rfl (by rfl) (fun K hK => ?_)
      have HKK := Lib.hid hK
      clear hK
      go_simp
      have HR := Lib.hid (box_new W2 9 #[.string ⟨#[112, 97, 114, 101, 110, 116]⟩, .string dg2])
      have HV := Lib.hid (HV.out.step ((Below.refl _ W2).alloc (Nat.le_refl _) (.cells #[.string ⟨#[112, 97, 114, 101, 110, 116]⟩, .string dg2] 9 (0, 0))))
      refine HKK.out _ _ ⟨_, HV.out⟩ ?_
      generalize W2.alloc (.cells #[.string ⟨#[112, 97, 114, 101, 110, 116]⟩, .string dg2] 9 (0, 0)) = W3 at *
      generalize W2.heap.size = bk at *
      clear HKK K
      go_simp
      refine seqH_call rfl (by rfl) (fun K hK => ?_)
      have HKK := Lib.hid hK
      clear hK
      go_simp
      refine (HLN.out bk W3 HV.out (row_cells (xs := [⟨#[112, 97, 114, 101, 110, 116]⟩, dg2]) HR.out) HR.out.lt).mono ?_
      rintro r W4 ⟨rfl, hv4⟩
      have HV := Lib.hid hv4
      clear hv4 HR
      refine HKK.out _ _ ⟨_, HV.out⟩ ?_
      clear HKK K
      go_simp
      refine seqH_done ?_
      go_wp2_with fail
      go_roundg (o.parents.length - (k + 1))
      case rel => exact ⟨k + 1, by omega, rfl, by go_num, by rw [HSN.out]; exact HV.out⟩
      case measure => omega
    · have h1 : ¬ (k : Int) < o.parents.length := by omega
      rw [show parC (o.parents.take k) = parC o.parents from by rw [List.take_of_length_le (by omega)]] at HV
      have HT := Lib.hid (fun W' (hv : Hv w W' o A c P d (l1 ++ parC o.parents ++ line wAuthor (signC o.who o.time) ++ [10])) => text_any w.heap.size (w.heap.size + 1) _ W' hv.bd hv.below.size)
      go_wp2_with (first
        | (go_at_call 49; refine (HSG.out _ HV.out).mono ?_; rintro r W6 ⟨rfl, hv6⟩; have HV := Lib.hid hv6; clear hv6)
        | (go_at_call 53; refine (HT.out _ HV.out).mono ?_; rintro r W5 ⟨rfl, hb5⟩))
      go_ret
      exact ⟨by simp only [List.append_assoc]; rfl, HV.out.below.trans hb5⟩

set_option maxHeartbeats 8000000 in
set_option maxRecDepth 100000 in
theorem headTag_any (o : Thing) (A : Option Addr) (c : Nat) (P : Option Addr) (d N : Nat) (w : World) (hK : Kw w) (hk : o.kind = 4) (hN : N ≤ 32) (ht : o.target.size = N) (hn : o.name.size ≤ 64) (hw : o.who.size ≤ 64) (h0 : 0 ≤ o.time) (h9 : o.time ≤ 2147483647) :
    Calls Tryz.prog 25 #[.agg (objC o A c P d)] w fun e w' => e = .returned (.string (str (line wObject (M.digs (bl o.target)) ++ line wType (bl (Idf.word o.ofk)) ++ line wTag (bl o.name) ++ line wTagger (signC o.who o.time) ++ [10]))) ∧ Below w.heap.size w w' := by
  have hmf : ∀ (fn : Fn) (first cap : Array Value) (w : World), (Instr.makeFunc fn first cap).run Tryz.prog w = .ok (.func fn first cap) w := fun _ _ _ _ => rfl
  have HV := Lib.hid (hv_new w o A c P d)
  have q1 : (o.kind == 2) = false := by rw [hk]; rfl
  have q2 : (o.kind == 3) = false := by rw [hk]; rfl
  have q3 : (o.kind == 4) = true := by rw [hk]; rfl
  have hd1 : (str (M.digs (bl o.target))).size ≤ 64 := by rw [str_size, digs_size, bl_length]; omega
  have hws := Idf.word_size o.ofk
  have hts : (line wObject (M.digs (bl o.target))).length ≤ 100 := by rw [str_size] at hd1; simp only [line, wObject, List.length_append, List.length_cons, List.length_nil]; omega
  have hty : (line wType (bl (Idf.word o.ofk))).length ≤ 100 := by simp only [line, wType, List.length_append, List.length_cons, List.length_nil, bl_length]; omega
  have htg : (line wTag (bl o.name)).length ≤ 100 := by simp only [line, wTag, List.length_append, List.length_cons, List.length_nil, bl_length]; omega
  have HD := Lib.hid (fun W => Digits_any o.target W (by omega))
  have HW := Lib.hid (fun W => pword_any o.ofk W)
  have HLN := Lib.hid (fun bk W' (hv : Hv w W' o A c P d []) hc hbk => hvLine_any w W' o A c P d [] ⟨#[111, 98, 106, 101, 99, 116]⟩ (str (M.digs (bl o.target))) bk hv hc hbk (by decide) (by omega) (by simp))
  rw [dg_line, List.nil_append, show bl ⟨#[111, 98, 106, 101, 99, 116]⟩ = wObject from rfl] at HLN
  generalize line wObject (M.digs (bl o.target)) = l1 at *
  generalize str (M.digs (bl o.target)) = dg at *
  have HLT := Lib.hid (fun bk W' (hv : Hv w W' o A c P d l1) hc hbk => hvLine_any w W' o A c P d l1 ⟨#[116, 121, 112, 101]⟩ (Idf.word o.ofk) bk hv hc hbk (by decide) (by omega) (by omega))
  rw [show bl ⟨#[116, 121, 112, 101]⟩ = wType from rfl] at HLT
  generalize line wType (bl (Idf.word o.ofk)) = l2 at *
  generalize Idf.word o.ofk = wd at *
  have HLG := Lib.hid (fun bk W' (hv : Hv w W' o A c P d (l1 ++ l2)) hc hbk => hvLine_any w W' o A c P d (l1 ++ l2) ⟨#[116, 97, 103]⟩ o.name bk hv hc hbk (by decide) (by omega) (by rw [List.length_append]; omega))
  rw [show bl ⟨#[116, 97, 103]⟩ = wTag from rfl] at HLG
  generalize line wTag (bl o.name) = l3 at *
  have HSG := Lib.hid (fun W' (hv : Hv w W' o A c P d (l1 ++ l2 ++ l3)) => sign_any w W' o A c P d (l1 ++ l2 ++ l3) ⟨#[116, 97, 103, 103, 101, 114]⟩ hv (hK.under hv.below) (by decide) (by omega) h0 h9 (by simp only [List.length_append]; omega))
  rw [show bl ⟨#[116, 97, 103, 103, 101, 114]⟩ = wTagger from rfl] at HSG
  have HT := Lib.hid (fun W' (hv : Hv w W' o A c P d (l1 ++ l2 ++ l3 ++ line wTagger (signC o.who o.time) ++ [10])) => text_any w.heap.size (w.heap.size + 1) _ W' hv.bd hv.below.size)
  clear hK hk ht hn hw h0 h9 hd1 hws hts hty htg
  go_enter Tryz.func25, Tryz.ntmps25
  go_upto_region 20 with fail
  generalize ((w.alloc (.cells (objC o A c P d) 25 (0, 0))).alloc (.cells #[.pointer none, .slice none 0 0] 67 (0, 0))).alloc (.cells #[.func (.func 46) #[] #[.pointer (some ⟨w.heap.size + 1, 0, none⟩)]] 73 (0, 0)) = W0 at *
  refine wp_region_seq (fun W' => ∃ l', Hv w W' o A c P d l') [(0, false, 0), (1, false, 1), (2, false, 3), (3, true, 7), (4, true, 15), (5, true, 31)]
    6 (by kernel_rfl) (by kernel_rfl) (by kernel_rfl) (fun d _ _ _ _ h => by cases d <;> exact h) (by kernel_rfl) (by kernel_rfl) (⟨_, HV.out.drew⟩) ?_
  have HV := Lib.hid HV.out.drew
  generalize W0.drew = W1 at *
  refine seqH_take (.func (.func 46) #[] #[.pointer (some ⟨w.heap.size + 1, 0, none⟩)]) rfl (Or.inl ⟨by rfl, fun W hW => by obtain ⟨l2, hh⟩ := hW; obtain ⟨c0, c1, c2, c3, c4, c5, c6, c7, c8, c9⟩ := hh.box.ten; have hfn := hh.fn.cell 0; clear hh; go_simp⟩) ?_
  go_simp
  refine seqH_take (.pointer (some ⟨w.heap.size, 5, none⟩)) rfl (Or.inl ⟨by rfl, fun W hW => by go_simp⟩) ?_
  go_simp
  refine seqH_take (.string o.target) rfl (Or.inl ⟨by rfl, fun W hW => by obtain ⟨l2, hh⟩ := hW; obtain ⟨c0, c1, c2, c3, c4, c5, c6, c7, c8, c9⟩ := hh.box.ten; have hfn := hh.fn.cell 0; clear hh; go_simp⟩) ?_
  go_simp
  refine seqH_call rfl (by rfl) (fun K hK => ?_)
  have HKK := Lib.hid hK
  clear hK
  go_simp
  refine (HD.out _).mono ?_
  rintro r W2 ⟨rfl, hb2⟩
  have HV := Lib.hid (HV.out.step hb2)
  clear hb2
  refine HKK.out _ _ ⟨_, HV.out⟩ ?_
  clear HKK K
  go_simp
  refine seqH_call rfl (by rfl) (fun K hK => ?_)
  have HKK := Lib.hid hK
  clear hK
  go_simp
  have HR := Lib.hid (box_new W2 9 #[.string ⟨#[111, 98, 106, 101, 99, 116]⟩, .string dg])
  have HV := Lib.hid (HV.out.step ((Below.refl _ W2).alloc (Nat.le_refl _) (.cells #[.string ⟨#[111, 98, 106, 101, 99, 116]⟩, .string dg] 9 (0, 0))))
  refine HKK.out _ _ ⟨_, HV.out⟩ ?_
  generalize W2.alloc (.cells #[.string ⟨#[111, 98, 106, 101, 99, 116]⟩, .string dg] 9 (0, 0)) = W3 at *
  generalize W2.heap.size = bk at *
  clear HKK K
  go_simp
  refine seqH_call rfl (by rfl) (fun K hK => ?_)
  have HKK := Lib.hid hK
  clear hK
  go_simp
  refine (HLN.out bk W3 HV.out (row_cells (xs := [⟨#[111, 98, 106, 101, 99, 116]⟩, dg]) HR.out) HR.out.lt).mono ?_
  rintro r W4 ⟨rfl, hv4⟩
  have HV := Lib.hid hv4
  clear hv4 HR
  refine HKK.out _ _ ⟨_, HV.out⟩ ?_
  clear HKK K
  go_simp
  refine seqH_done ?_
  obtain ⟨c0, c1, c2, c3, c4, c5, c6, c7, c8, c9⟩ := HV.out.box.ten
  go_upto_region 21 with fail
  clear c0 c1 c2 c3 c4 c5 c6 c7 c8 c9
  refine wp_region_seq (fun W' => ∃ l', Hv w W' o A c P d l') [(0, false, 0), (1, false, 1), (2, false, 3), (3, true, 7), (4, true, 15), (5, true, 31)]
    6 (by kernel_rfl) (by kernel_rfl) (by kernel_rfl) (fun d _ _ _ _ h => by cases d <;> exact h) (by kernel_rfl) (by kernel_rfl) (⟨_, HV.out.drew⟩) ?_
  have HV := Lib.hid HV.out.drew
  generalize W4.drew = W5 at *
  refine seqH_take (.func (.func 46) #[] #[.pointer (some ⟨w.heap.size + 1, 0, none⟩)]) rfl (Or.inl ⟨by rfl, fun W hW => by obtain ⟨l2, hh⟩ := hW; obtain ⟨c0, c1, c2, c3, c4, c5, c6, c7, c8, c9⟩ := hh.box.ten; have hfn := hh.fn.cell 0; clear hh; go_simp⟩) ?_
  go_simp
  refine seqH_take (.pointer (some ⟨w.heap.size, 6, none⟩)) rfl (Or.inl ⟨by rfl, fun W hW => by go_simp⟩) ?_
  go_simp
  refine seqH_take (.int .i64 o.ofk) rfl (Or.inl ⟨by rfl, fun W hW => by obtain ⟨l2, hh⟩ := hW; obtain ⟨c0, c1, c2, c3, c4, c5, c6, c7, c8, c9⟩ := hh.box.ten; have hfn := hh.fn.cell 0; clear hh; go_simp⟩) ?_
  go_simp
  refine seqH_call rfl (by rfl) (fun K hK => ?_)
  have HKK := Lib.hid hK
  clear hK
  go_simp
  refine (HW.out _).mono ?_
  rintro r W2 ⟨rfl, rfl⟩
  refine HKK.out _ _ ⟨_, HV.out⟩ ?_
  clear HKK K
  go_simp
  refine seqH_call rfl (by rfl) (fun K hK => ?_)
  have HKK := Lib.hid hK
  clear hK
  go_simp
  have HR := Lib.hid (box_new W5 9 #[.string ⟨#[116, 121, 112, 101]⟩, .string wd])
  have HV := Lib.hid (HV.out.step ((Below.refl _ W5).alloc (Nat.le_refl _) (.cells #[.string ⟨#[116, 121, 112, 101]⟩, .string wd] 9 (0, 0))))
  refine HKK.out _ _ ⟨_, HV.out⟩ ?_
  generalize W5.alloc (.cells #[.string ⟨#[116, 121, 112, 101]⟩, .string wd] 9 (0, 0)) = W6 at *
  generalize W5.heap.size = bk at *
  clear HKK K
  go_simp
  refine seqH_call rfl (by rfl) (fun K hK => ?_)
  have HKK := Lib.hid hK
  clear hK
  go_simp
  refine (HLT.out bk W6 HV.out (row_cells (xs := [⟨#[116, 121, 112, 101]⟩, wd]) HR.out) HR.out.lt).mono ?_
  rintro r W7 ⟨rfl, hv4⟩
  have HV := Lib.hid hv4
  clear hv4 HR
  refine HKK.out _ _ ⟨_, HV.out⟩ ?_
  clear HKK K
  go_simp
  refine seqH_done ?_
  obtain ⟨c0, c1, c2, c3, c4, c5, c6, c7, c8, c9⟩ := HV.out.box.ten
  have hf0 := HV.out.fn.cell 0
  go_wp2_with (first
    | (go_at_call 46; refine (HLG.out _ _ (HV.out.step ((Below.refl _ _).alloc (Nat.le_refl _) _)) (row_cells (xs := [⟨#[116, 97, 103]⟩, o.name]) (box_new _ 9 _)) (box_new _ 9 _).lt).mono ?_; rintro r W8 ⟨rfl, hv8⟩; have HV := Lib.hid hv8; clear hv8)
    | (go_at_call 49; refine (HSG.out _ HV.out).mono ?_; rintro r W9 ⟨rfl, hv9⟩; have HV := Lib.hid hv9; clear hv9)
    | (go_at_call 53; refine (HT.out _ HV.out).mono ?_; rintro r Wa ⟨rfl, hba⟩))
  go_ret
  exact ⟨by simp only [List.append_assoc]; rfl, HV.out.below.trans hba⟩
end Go.Proofs.YtapjgdhdgpakhaaGreatDoor.Hj
