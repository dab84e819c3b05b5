/-
  What the law of lists holds (layer 6): a Todo, a Seen, two rows of numbers, and a block.
-/
import Derived.Test.YtmfejibllhccaaaSp
import Derived.Test.YtmfejibllhccaaaXb
namespace Go.Proofs.Ytmfejibllhccaaa.Hx
open Go.RowKit Hw
set_option linter.unusedVariables false

def Sn (b : Nat) (ks : List Int) : List Nat → World → Prop := fun F w => SeenAt w b ks F
theorem sn_part (b : Nat) (ks : List Int) : Part (Sn b ks) := ⟨fun h => SeenAt.lies h, fun h hs => SeenAt.same h hs⟩
section
variable {w1 w w' : World} {R : List Nat → World → Prop} {b : Nat} {l ks : List Int}
theorem td_push (h : Holds w1 (Star (Td b l) R) w) (hR : Part R) (x : Int) (hl : l.length ≤ 100000) : Calls Try.prog 14 #[.pointer (some ⟨b, 0, none⟩), .int .i64 x] w fun e w' => e = .returned (.tuple #[]) ∧ Holds w1 (Star (Td b (l ++ [x])) R) w' := by
  obtain ⟨A, ht, hn, hput⟩ := h.head hR
  refine (push_any w b A l x ht hl).mono ?_
  rintro e w' ⟨he, F', ht', hu⟩
  exact ⟨he, hput (T' := Td b (l ++ [x])) ht' hu⟩
theorem td_pop_nil (h : Holds w1 (Star (Td b []) R) w) : Calls Try.prog 17 #[.pointer (some ⟨b, 0, none⟩)] w fun e w' => e = .returned (.tuple #[.int .i64 0, .bool false]) ∧ w' = w := by
  obtain ⟨F, ⟨A, B, _, _, ht, _⟩, _, _⟩ := h
  exact pop_nil w b A ht
theorem td_pop_snoc {x : Int} (h : Holds w1 (Star (Td b (l ++ [x])) R) w) (hR : Part R) (hl : l.length ≤ 100000) : Calls Try.prog 17 #[.pointer (some ⟨b, 0, none⟩)] w fun e w' => e = .returned (.tuple #[.int .i64 x, .bool true]) ∧ Holds w1 (Star (Td b l) R) w' := by
  obtain ⟨A, ht, hn, hput⟩ := h.head hR
  refine (pop_snoc w b A l x ht hl).mono ?_
  rintro e w' ⟨he, ht', hu⟩
  exact ⟨he, hput (T' := Td b l) ht' hu⟩
theorem td_len (h : Holds w1 (Star (Td b l) R) w) : Calls Try.prog 19 #[.pointer (some ⟨b, 0, none⟩)] w fun e w' => e = .returned (.int .i64 l.length) ∧ w' = w := by
  obtain ⟨F, ⟨A, B, _, _, ht, _⟩, _, _⟩ := h
  exact todo_len w b A l ht
theorem sn_add_old (h : Holds w1 (Star (Sn b ks) R) w) (hR : Part R) (x : Int) (hx : (Lit.int .i64 x).wf = true) (hin : x ∈ ks) : Calls Try.prog 15 #[.pointer (some ⟨b, 0, none⟩), .int .i64 x] w fun e w' => e = .returned (.bool false) ∧ Holds w1 (Star (Sn b ks) R) w' := by
  have h0 := h
  obtain ⟨F, ⟨A, B, _, _, ht, _⟩, _, _⟩ := h0
  exact (add_old w b A ks x ht hx hin).mono fun e w' ⟨he, hb⟩ => ⟨he, h.below ((sn_part b ks).star hR) hb⟩
theorem sn_add_new (h : Holds w1 (Star (Sn b ks) R) w) (hR : Part R) (x : Int) (hx : (Lit.int .i64 x).wf = true) (hin : x ∉ ks) (hl : ks.length ≤ 100000) : Calls Try.prog 15 #[.pointer (some ⟨b, 0, none⟩), .int .i64 x] w fun e w' => e = .returned (.bool true) ∧ Holds w1 (Star (Sn b (ks ++ [x])) R) w' := by
  obtain ⟨A, ht, hn, hput⟩ := h.head hR
  refine (add_new w b A ks x ht hx hin hl).mono ?_
  rintro e w' ⟨he, F', ht', hu⟩
  exact ⟨he, hput (T' := Sn b (ks ++ [x])) ht' hu⟩
theorem sn_has (h : Holds w1 (Star (Sn b ks) R) w) (x : Int) (hx : (Lit.int .i64 x).wf = true) : Calls Try.prog 18 #[.pointer (some ⟨b, 0, none⟩), .int .i64 x] w fun e w' => e = .returned (.bool (decide (x ∈ ks))) ∧ Below w.heap.size w w' := by
  obtain ⟨F, ⟨A, B, _, _, ht, _⟩, _, _⟩ := h
  exact has_any w b A ks x ht hx
theorem sn_len (h : Holds w1 (Star (Sn b ks) R) w) (hl : ks.length ≤ 100000) : Calls Try.prog 20 #[.pointer (some ⟨b, 0, none⟩)] w fun e w' => e = .returned (.int .i64 ks.length) ∧ Below w.heap.size w w' := by
  obtain ⟨F, ⟨A, B, _, _, ht, _⟩, _, _⟩ := h
  exact seen_len w b A ks ht hl
end
/-- the four things -/
def L4 (bT bS : Nat) (lt ls : List Int) (Al : Option Addr) (cl : Nat) (ll : List Int) (Ak : Option Addr) (ck : Nat) (lk : List Int) : List Nat → World → Prop :=
  Star (Td bT lt) (Star (Sn bS ls) (Star (Rw (.slice Al ll.length cl) ll) (Rw (.slice Ak lk.length ck) lk)))
section
variable {bT bS : Nat} {lt ls ll lk : List Int} {Al Ak : Option Addr} {cl ck : Nat} {w1 w w' : World} {k : Nat} {o : Obj}
theorem l4_part : Part (L4 bT bS lt ls Al cl ll Ak ck lk) := (td_part _ _).star ((sn_part _ _).star ((rw_part _ _).star (rw_part _ _)))
abbrev LB (w1 : World) (k : Nat) (o : Obj) (bT bS : Nat) (lt ls : List Int) (Al : Option Addr) (cl : Nat) (ll : List Int) (Ak : Option Addr) (ck : Nat) (lk : List Int) (w : World) : Prop := Holds w1 (Star (Bx k o) (L4 bT bS lt ls Al cl ll Ak ck lk)) w
abbrev R3 (bS : Nat) (ls : List Int) (Al : Option Addr) (cl : Nat) (ll : List Int) (Ak : Option Addr) (ck : Nat) (lk : List Int) : List Nat → World → Prop := Star (Sn bS ls) (Star (Rw (.slice Al ll.length cl) ll) (Rw (.slice Ak lk.length ck) lk))
theorem r3_part : Part (R3 bS ls Al cl ll Ak ck lk) := (sn_part _ _).star ((rw_part _ _).star (rw_part _ _))
theorem rr_part : Part (Star (Rw (.slice Al ll.length cl) ll) (Rw (.slice Ak lk.length ck) lk)) := (rw_part _ _).star (rw_part _ _)
theorem lb_below (h : LB w1 k o bT bS lt ls Al cl ll Ak ck lk w) (hb : Below w.heap.size w w') : LB w1 k o bT bS lt ls Al cl ll Ak ck lk w' := h.below ((bx_part k o).star l4_part) hb
theorem lb_push (h : LB w1 k o bT bS lt ls Al cl ll Ak ck lk w) (x : Int) (hl : lt.length ≤ 100000) : Calls Try.prog 14 #[.pointer (some ⟨bT, 0, none⟩), .int .i64 x] w fun e w' => e = .returned (.tuple #[]) ∧ LB w1 k o bT bS (lt ++ [x]) ls Al cl ll Ak ck lk w' :=
  (td_push (h.imp imp_swap) ((bx_part k o).star r3_part) x hl).mono fun e w' ⟨he, h'⟩ => ⟨he, h'.imp imp_swap⟩
theorem lb_pop_nil (h : LB w1 k o bT bS [] ls Al cl ll Ak ck lk w) : Calls Try.prog 17 #[.pointer (some ⟨bT, 0, none⟩)] w fun e w' => e = .returned (.tuple #[.int .i64 0, .bool false]) ∧ w' = w := td_pop_nil (h.imp imp_swap)
theorem lb_pop_snoc {x : Int} (h : LB w1 k o bT bS (lt ++ [x]) ls Al cl ll Ak ck lk w) (hl : lt.length ≤ 100000) : Calls Try.prog 17 #[.pointer (some ⟨bT, 0, none⟩)] w fun e w' => e = .returned (.tuple #[.int .i64 x, .bool true]) ∧ LB w1 k o bT bS lt ls Al cl ll Ak ck lk w' :=
  (td_pop_snoc (h.imp imp_swap) ((bx_part k o).star r3_part) hl).mono fun e w' ⟨he, h'⟩ => ⟨he, h'.imp imp_swap⟩
theorem lb_tlen (h : LB w1 k o bT bS lt ls Al cl ll Ak ck lk w) : Calls Try.prog 19 #[.pointer (some ⟨bT, 0, none⟩)] w fun e w' => e = .returned (.int .i64 lt.length) ∧ w' = w := td_len (h.imp imp_swap)
theorem back3 {T U V R : List Nat → World → Prop} : Imp (Star V (Star T (Star U R))) (Star T (Star U (Star V R))) := imp_swap.trans (imp_tail imp_swap)
theorem lb_add_old (h : LB w1 k o bT bS lt ls Al cl ll Ak ck lk w) (x : Int) (hx : (Lit.int .i64 x).wf = true) (hin : x ∈ ls) : Calls Try.prog 15 #[.pointer (some ⟨bS, 0, none⟩), .int .i64 x] w fun e w' => e = .returned (.bool false) ∧ LB w1 k o bT bS lt ls Al cl ll Ak ck lk w' :=
  (sn_add_old (h.imp imp3) ((bx_part k o).star ((td_part _ _).star rr_part)) x hx hin).mono fun e w' ⟨he, h'⟩ => ⟨he, h'.imp back3⟩
theorem lb_add_new (h : LB w1 k o bT bS lt ls Al cl ll Ak ck lk w) (x : Int) (hx : (Lit.int .i64 x).wf = true) (hin : x ∉ ls) (hl : ls.length ≤ 100000) : Calls Try.prog 15 #[.pointer (some ⟨bS, 0, none⟩), .int .i64 x] w fun e w' => e = .returned (.bool true) ∧ LB w1 k o bT bS lt (ls ++ [x]) Al cl ll Ak ck lk w' :=
  (sn_add_new (h.imp imp3) ((bx_part k o).star ((td_part _ _).star rr_part)) x hx hin hl).mono fun e w' ⟨he, h'⟩ => ⟨he, h'.imp back3⟩
theorem lb_has (h : LB w1 k o bT bS lt ls Al cl ll Ak ck lk w) (x : Int) (hx : (Lit.int .i64 x).wf = true) : Calls Try.prog 18 #[.pointer (some ⟨bS, 0, none⟩), .int .i64 x] w fun e w' => e = .returned (.bool (decide (x ∈ ls))) ∧ Below w.heap.size w w' := sn_has (h.imp imp3) x hx
theorem lb_slen (h : LB w1 k o bT bS lt ls Al cl ll Ak ck lk w) (hl : ls.length ≤ 100000) : Calls Try.prog 20 #[.pointer (some ⟨bS, 0, none⟩)] w fun e w' => e = .returned (.int .i64 ls.length) ∧ Below w.heap.size w w' := sn_len (h.imp imp3) hl
theorem toL : Imp (Star (Bx k o) (L4 bT bS lt ls Al cl ll Ak ck lk)) (Star (Rw (.slice Al ll.length cl) ll) (Star (Bx k o) (Star (Td bT lt) (Star (Sn bS ls) (Rw (.slice Ak lk.length ck) lk))))) := (imp_tail imp3).trans imp_swap
theorem fromL : Imp (Star (Rw (.slice Al ll.length cl) ll) (Star (Bx k o) (Star (Td bT lt) (Star (Sn bS ls) (Rw (.slice Ak lk.length ck) lk))))) (Star (Bx k o) (L4 bT bS lt ls Al cl ll Ak ck lk)) := imp_swap.trans (imp_tail back3)
theorem toK : Imp (Star (Bx k o) (L4 bT bS lt ls Al cl ll Ak ck lk)) (Star (Rw (.slice Ak lk.length ck) lk) (Star (Bx k o) (Star (Td bT lt) (Star (Sn bS ls) (Rw (.slice Al ll.length cl) ll))))) := (imp_tail ((imp_tail (imp_tail imp_comm)).trans imp3)).trans imp_swap
theorem fromK : Imp (Star (Rw (.slice Ak lk.length ck) lk) (Star (Bx k o) (Star (Td bT lt) (Star (Sn bS ls) (Rw (.slice Al ll.length cl) ll))))) (Star (Bx k o) (L4 bT bS lt ls Al cl ll Ak ck lk)) := imp_swap.trans (imp_tail (back3.trans (imp_tail (imp_tail imp_comm))))
theorem restL : Part (Star (Bx k o) (Star (Td bT lt) (Star (Sn bS ls) (Rw (.slice Ak lk.length ck) lk)))) := (bx_part k o).star ((td_part _ _).star ((sn_part _ _).star (rw_part _ _)))
theorem lb_in (h : LB w1 k o bT bS lt ls Al cl ll Ak ck lk w) (x : Int) (hl : lk.length ≤ 100000) : Calls Try.prog 16 #[.slice Ak lk.length ck, .int .i64 x] w fun e w' => e = .returned (.bool (decide (x ∈ lk))) ∧ w' = w := by
  obtain ⟨A, c, e, hin⟩ := (h.imp toK).ints
  injection e with e1 _ e3
  subst e1 e3
  exact in_any w w.heap.size Ak ck lk x hin hl
theorem lb_app_l (h : LB w1 k o bT bS lt ls Al cl ll Ak ck lk w) (x : Int) (hl : ll.length ≤ 100000) (ad : Addr) (hc : w.cell? ad = some (.int .i64 x)) (m : Nat) (ty : TypeId) :
    ∃ A' c' w', (Builtin.append_ #[26, 26] ty #[.slice Al ll.length cl, .slice (some ad) 1 m]).run Try.prog w = .ok (.slice A' (ll ++ [x]).length c') w' ∧ LB w1 k o bT bS lt ls A' c' (ll ++ [x]) Ak ck lk w' := by
  obtain ⟨A', c', w', hrun, h'⟩ := rw_append (h.imp toL) restL x hl ad hc m ty
  exact ⟨A', c', w', hrun, h'.imp fromL⟩
theorem lb_app_k (h : LB w1 k o bT bS lt ls Al cl ll Ak ck lk w) (x : Int) (hl : lk.length ≤ 100000) (ad : Addr) (hc : w.cell? ad = some (.int .i64 x)) (m : Nat) (ty : TypeId) :
    ∃ A' c' w', (Builtin.append_ #[26, 26] ty #[.slice Ak lk.length ck, .slice (some ad) 1 m]).run Try.prog w = .ok (.slice A' (lk ++ [x]).length c') w' ∧ LB w1 k o bT bS lt ls Al cl ll A' c' (lk ++ [x]) w' := by
  obtain ⟨A', c', w', hrun, h'⟩ := rw_append (h.imp toK) restL x hl ad hc m ty
  exact ⟨A', c', w', hrun, h'.imp fromK⟩
theorem lb_drop {x : Int} (h : LB w1 k o bT bS lt ls Al cl (ll ++ [x]) Ak ck lk w) : ∃ g, Al = some ⟨g, 0, none⟩ ∧ ll.length + 1 ≤ cl ∧ cl ≤ maxLen ∧ w.cell? ⟨g, ll.length, none⟩ = some (.int .i64 x) ∧ LB w1 k o bT bS lt ls Al cl ll Ak ck lk w := by
  obtain ⟨g, e, h1, h2, h3, h4⟩ := rw_drop (h.imp toL) restL
  exact ⟨g, e, h1, h2, h3, h4.imp fromL⟩
end
end Go.Proofs.Ytmfejibllhccaaa.Hx
