/-
  The program's pipes of string (layer 6): NewPipe, Send, Next, Close, Left.
-/
import Derived.Test.YtmfejibllhccaaaXg
namespace Go.Proofs.Ytmfejibllhccaaa.Hps
open Go.RowKit Go.Conc Hw Hx
set_option linter.unusedVariables false

set_option maxRecDepth 100000 in
theorem send_shut (w : World) (b cap : Nat) (qs : List (Nat × Value)) (F : List Nat) (x : ByteArray) (h : PipeAt w b cap true qs F) :
    Calls Try.prog 30 #[.pointer (some ⟨b, 0, none⟩), (.string x)] w fun e w' => e = .returned (.bool false) ∧ Below w.heap.size w w' := by
  obtain ⟨c, t, s, r, hb, hc, hq, rfl⟩ := h
  have hbl : b < w.heap.size := (Array.getElem?_eq_some_iff.1 hb).1
  have c1 : (w.alloc (.cells #[(.string x)] 9)).cell? ⟨b, 1, none⟩ = some (.bool true) := by rw [cell_of_cells ((Below.heap_alloc _ _ _ hbl).trans hb)]; rfl
  clear hb hc hq
  refine calls_of_loneTo fun cs => ?_
  have e : Frame.enter Try.prog 30 #[.pointer (some ⟨b, 0, none⟩), (.string x)] .normal = (base 30).at ⟨#[.pointer (some ⟨b, 0, none⟩), (.string x), undef, undef, undef, undef, undef, undef, undef, undef, undef, undef, undef, undef, undef, undef], []⟩ [.code (Try.f30.body.getD .skip)] := by
    simp [Frame.enter, Frame.at, Try.func30, base, Try.f30]
  rw [e]
  refine LoneTo.goes (n := 40) ?_
  simp only [Try.f30, Option.getD_some]
  s_c stepG_seq
  s_reg
  s_op
  s_op
  s_c stepG_region_end
  s_c stepG_seq
  s_c stepG_seq
  s_reg
  s_op
  s_op
  s_op
  s_op
  s_c stepG_region_end
  s_cond true
  s_c stepG_seq
  s_reg
  s_op
  s_c stepG_region_end
  s_c stepG_ret'
  s_stop
  refine LoneTo.done ⟨.returned (.bool false), _, rfl, ⟨rfl, (Below.refl _ w).alloc (Nat.le_refl _) _⟩, rfl, rfl, rfl, rfl, _, Try.func30, by simp [results, Try.f30, Frame.at]⟩

set_option maxRecDepth 100000 in
theorem send_full (w : World) (b cap : Nat) (qs : List (Nat × Value)) (F : List Nat) (x : ByteArray) (h : PipeAt w b cap false qs F) (hfull : cap ≤ qs.length) :
    Calls Try.prog 30 #[.pointer (some ⟨b, 0, none⟩), (.string x)] w fun e w' => e = .returned (.bool false) ∧ Below w.heap.size w w' := by
  obtain ⟨c, t, s, r, hb, hc, hq, rfl⟩ := h
  have hbl : b < w.heap.size := (Array.getElem?_eq_some_iff.1 hb).1
  have hcl : c < w.heap.size := (Array.getElem?_eq_some_iff.1 hc).1
  have c1 : (w.alloc (.cells #[(.string x)] 9)).cell? ⟨b, 1, none⟩ = some (.bool false) := by rw [cell_of_cells ((Below.heap_alloc _ _ _ hbl).trans hb)]; rfl
  have c0 : (w.alloc (.cells #[(.string x)] 9)).cell? ⟨b, 0, none⟩ = some (.chan (some c)) := by rw [cell_of_cells ((Below.heap_alloc _ _ _ hbl).trans hb)]; rfl
  have hc' : (w.alloc (.cells #[(.string x)] 9)).heap[c]? = some (.chan cap (ptrs qs) false s r false) := (Below.heap_alloc _ _ _ hcl).trans hc
  clear hb hc hq
  refine calls_of_loneTo fun cs => ?_
  have e : Frame.enter Try.prog 30 #[.pointer (some ⟨b, 0, none⟩), (.string x)] .normal = (base 30).at ⟨#[.pointer (some ⟨b, 0, none⟩), (.string x), undef, undef, undef, undef, undef, undef, undef, undef, undef, undef, undef, undef, undef, undef], []⟩ [.code (Try.f30.body.getD .skip)] := by
    simp [Frame.enter, Frame.at, Try.func30, base, Try.f30]
  rw [e]
  refine LoneTo.goes (n := 40) ?_
  simp only [Try.f30, Option.getD_some]
  s_c stepG_seq
  s_reg
  s_op
  s_op
  s_c stepG_region_end
  s_c stepG_seq
  s_c stepG_seq
  s_reg
  s_op
  s_op
  s_op
  s_op
  s_c stepG_region_end
  s_cond false
  s_c stepG_skip
  s_c stepG_seq
  s_reg
  s_op
  s_op
  s_op
  s_op
  s_c stepG_region_end
  s_c stepG_seq
  s_reg
  s_stop
  refine LoneTo.step (step_lone_select_send_full (c := c) (cap := cap) (buf := ptrs qs) (s := s) (r := r) (tm := false) (stepG_comm (cases := #[scase c (.pointer (some ⟨w.heap.size, 0, none⟩)) (.pointer none)]) (blocking := false) (shape := .select) (w' := w.alloc (.cells #[(.string x)] 9)) rfl rfl (by decide) (by simp [go_sem, execOp, scase, Act.eval])) hc' (by rw [ptrs_size]; exact hfull)) ?_
  rw [Frame.finish_at]
  walk_nrm
  refine LoneTo.goes (n := 20) ?_
  s_op
  s_op
  s_c stepG_region_end
  s_c stepG_block
  s_cond false
  s_c stepG_seq
  s_reg
  s_op
  s_c stepG_region_end
  s_c stepG_ret'
  s_stop
  refine LoneTo.done ⟨.returned (.bool false), _, rfl, ⟨rfl, (Below.refl _ w).alloc (Nat.le_refl _) _⟩, rfl, rfl, rfl, rfl, _, Try.func30, by simp [results, Try.f30, Frame.at]⟩

set_option maxRecDepth 100000 in
theorem send_room (w : World) (b cap : Nat) (qs : List (Nat × Value)) (F : List Nat) (x : ByteArray) (h : PipeAt w b cap false qs F) (hroom : qs.length < cap) :
    Calls Try.prog 30 #[.pointer (some ⟨b, 0, none⟩), (.string x)] w fun e w' => e = .returned (.bool true) ∧ ∃ p F', PipeAt w' b cap false (qs ++ [(p, (.string x))]) F' ∧ Turns F F' w w' := by
  obtain ⟨c, t, s, r, hb, hc, hq, rfl⟩ := h
  have hbl : b < w.heap.size := (Array.getElem?_eq_some_iff.1 hb).1
  have hcl : c < w.heap.size := (Array.getElem?_eq_some_iff.1 hc).1
  have c1 : (w.alloc (.cells #[(.string x)] 9)).cell? ⟨b, 1, none⟩ = some (.bool false) := by rw [cell_of_cells ((Below.heap_alloc _ _ _ hbl).trans hb)]; rfl
  have c0 : (w.alloc (.cells #[(.string x)] 9)).cell? ⟨b, 0, none⟩ = some (.chan (some c)) := by rw [cell_of_cells ((Below.heap_alloc _ _ _ hbl).trans hb)]; rfl
  have hc' : (w.alloc (.cells #[(.string x)] 9)).heap[c]? = some (.chan cap (ptrs qs) false s r false) := (Below.heap_alloc _ _ _ hcl).trans hc
  have HB := Lib.hid (And.intro hb (And.intro hc hq))
  clear hb hc hq
  refine calls_of_loneTo fun cs => ?_
  have e : Frame.enter Try.prog 30 #[.pointer (some ⟨b, 0, none⟩), (.string x)] .normal = (base 30).at ⟨#[.pointer (some ⟨b, 0, none⟩), (.string x), undef, undef, undef, undef, undef, undef, undef, undef, undef, undef, undef, undef, undef, undef], []⟩ [.code (Try.f30.body.getD .skip)] := by
    simp [Frame.enter, Frame.at, Try.func30, base, Try.f30]
  rw [e]
  refine LoneTo.goes (n := 40) ?_
  simp only [Try.f30, Option.getD_some]
  s_c stepG_seq
  s_reg
  s_op
  s_op
  s_c stepG_region_end
  s_c stepG_seq
  s_c stepG_seq
  s_reg
  s_op
  s_op
  s_op
  s_op
  s_c stepG_region_end
  s_cond false
  s_c stepG_skip
  s_c stepG_seq
  s_reg
  s_op
  s_op
  s_op
  s_op
  s_c stepG_region_end
  s_c stepG_seq
  s_reg
  s_stop
  refine LoneTo.step (step_lone_select_send_room (c := c) (cap := cap) (buf := ptrs qs) (s := s) (r := r) (tm := false) (stepG_comm (cases := #[scase c (.pointer (some ⟨w.heap.size, 0, none⟩)) (.pointer none)]) (blocking := false) (shape := .select) (w' := w.alloc (.cells #[(.string x)] 9)) rfl rfl (by decide) (by simp [go_sem, execOp, scase, Act.eval])) hc' (by rw [ptrs_size]; exact hroom)) ?_
  rw [Frame.finish_at, ptrs_push qs w.heap.size (.string x)]
  walk_nrm
  refine LoneTo.goes (n := 20) ?_
  s_op
  s_op
  s_c stepG_region_end
  s_c stepG_block
  s_cond true
  s_c stepG_seq
  s_reg
  s_op
  s_c stepG_region_end
  s_c stepG_ret'
  s_stop
  refine LoneTo.done ⟨.returned (.bool true), _, rfl, ⟨rfl, w.heap.size, b :: c :: (qs ++ [(w.heap.size, ((.string x) : Value))]).map (·.1), ?_, ?_⟩, rfl, rfl, rfl, rfl, _, Try.func30, by simp [results, Try.f30, Frame.at]⟩
  · obtain ⟨hb, hc, hq⟩ := HB.out
    have hbc : b ≠ c := fun e => by rw [e, hc] at hb; cases hb
    refine ⟨c, t, s + 1, r, (setChan_ne _ _ _ _ _ _ _ hbc).trans ((Below.heap_alloc _ _ _ hbl).trans hb), heap_setChan _ _ _ _ _ _ _ _ (by simp; omega), fun q hq1 => ?_, rfl⟩
    rcases List.mem_append.1 hq1 with hq1 | hq1
    · obtain ⟨u, hu⟩ := hq q hq1
      have hql := (Array.getElem?_eq_some_iff.1 hu).1
      have hqc : q.1 ≠ c := fun e => by rw [e, hc] at hu; cases hu
      exact ⟨u, (setChan_ne _ _ _ _ _ _ _ hqc).trans ((Below.heap_alloc _ _ _ hql).trans hu)⟩
    · obtain rfl : q = (w.heap.size, (.string x)) := by simpa using hq1
      exact ⟨_, (setChan_ne _ _ _ _ _ _ _ (by show w.heap.size ≠ c; omega)).trans (heap_alloc_new w _)⟩
  · refine (((Turns.refl (b :: c :: qs.map (·.1)) w).alloc _).setChan (c := c) (by simp) _ _ _ _ _ _).to ?_
    intro k hk
    rcases List.mem_cons.1 hk with rfl | hk
    · exact .inl (by simp)
    · rcases List.mem_cons.1 hk with rfl | hk
      · exact .inl (by simp)
      · rw [List.map_append] at hk
        rcases List.mem_append.1 hk with hk | hk
        · exact .inl (by simp only [List.mem_cons]; exact .inr (.inr hk))
        · exact .inr (by simp at hk; omega)

set_option maxRecDepth 100000 in
theorem next_some (w : World) (b cap : Nat) (F : List Nat) (cl : Bool) (p : Nat) (x : ByteArray) (qs : List (Nat × Value)) (h : PipeAt w b cap cl ((p, (.string x)) :: qs) F) :
    Calls Try.prog 31 #[.pointer (some ⟨b, 0, none⟩)] w fun e w' => e = .returned (.tuple #[(.string x), .bool true]) ∧ ∃ F', PipeAt w' b cap cl qs F' ∧ Turns F F' w w' := by
  obtain ⟨c, t, s, r, hb, hc, hq, rfl⟩ := h
  have hbl : b < w.heap.size := (Array.getElem?_eq_some_iff.1 hb).1
  have hcl : c < w.heap.size := (Array.getElem?_eq_some_iff.1 hc).1
  have c0 : w.cell? ⟨b, 0, none⟩ = some (.chan (some c)) := by rw [cell_of_cells hb]; rfl
  obtain ⟨u, hu⟩ := hq (p, (.string x)) (by simp)
  have hpc : p ≠ c := fun e => by rw [e, hc] at hu; cases hu
  have cp : (w.setChan c cap (ptrs qs) cl s (r + 1) false).cell? ⟨p, 0, none⟩ = some (.string x) := by rw [cell_of_cells ((setChan_ne _ _ _ _ _ _ _ hpc).trans hu)]; rfl
  have HB := Lib.hid (And.intro hb (And.intro hc hq))
  clear hb hq hu
  refine calls_of_loneTo fun cs => ?_
  have e : Frame.enter Try.prog 31 #[.pointer (some ⟨b, 0, none⟩)] .normal = (base 31).at ⟨#[.pointer (some ⟨b, 0, none⟩), undef, undef, undef, undef, undef, undef, undef, undef, undef, undef, undef, undef, undef, undef, undef, undef, undef, undef, undef, undef], []⟩ [.code (Try.f31.body.getD .skip)] := by
    simp [Frame.enter, Frame.at, Try.func31, base, Try.f31]
  rw [e]
  refine LoneTo.goes (n := 40) ?_
  simp only [Try.f31, Option.getD_some]
  s_c stepG_seq
  s_reg
  s_op
  s_op
  s_c stepG_region_end
  s_c stepG_seq
  s_c stepG_seq
  s_reg
  s_op
  s_op
  s_op
  s_op
  s_c stepG_region_end
  s_c stepG_seq
  s_reg
  s_stop
  refine LoneTo.step (step_lone_select_recv_buf (c := c) (z := .pointer none) (stepG_comm (cases := #[rcase c (.pointer none)]) (blocking := false) (shape := .select) (w' := w) rfl rfl (by decide) (by simp [go_sem, execOp, rcase, Act.eval])) hc (by rw [ptrs_size]; simp)) ?_
  rw [Frame.finish_at, ptrs_head, ptrs_pop]
  walk_nrm
  refine LoneTo.goes (n := 40) ?_
  s_op
  s_op
  s_c stepG_region_end
  s_c stepG_block
  s_cond true
  s_c stepG_seq
  s_reg
  s_op
  s_op
  s_op
  s_op
  s_c stepG_region_end
  s_c stepG_seq
  s_reg
  s_op
  s_c stepG_region_end
  s_cond true
  s_c stepG_seq
  s_reg
  s_op
  s_op
  s_op
  s_op
  s_op
  s_c stepG_region_end
  s_c stepG_ret'
  s_stop
  refine LoneTo.done ⟨.returned (.tuple #[(.string x), .bool true]), _, rfl, ⟨rfl, b :: c :: qs.map (·.1), ?_, ?_⟩, rfl, rfl, rfl, rfl, _, Try.func31, by simp [results, Try.f31, Frame.at]⟩
  · obtain ⟨hb, hc, hq⟩ := HB.out
    have hbc : b ≠ c := fun e => by rw [e, hc] at hb; cases hb
    refine ⟨c, t, s, r + 1, (setChan_ne _ _ _ _ _ _ _ hbc).trans hb, heap_setChan _ _ _ _ _ _ _ _ hcl, fun q hq1 => ?_, rfl⟩
    obtain ⟨u, hu⟩ := hq q (by simp [hq1])
    have hqc : q.1 ≠ c := fun e => by rw [e, hc] at hu; cases hu
    exact ⟨u, (setChan_ne _ _ _ _ _ _ _ hqc).trans hu⟩
  · refine ((Turns.refl (b :: c :: ((p, ((.string x) : Value)) :: qs).map (·.1)) w).setChan (c := c) (by simp) _ _ _ _ _ _).to ?_
    intro k hk
    refine .inl ?_
    simp only [List.map_cons, List.mem_cons] at hk ⊢
    rcases hk with h | h | h
    · exact .inl h
    · exact .inr (.inl h)
    · exact .inr (.inr (.inr h))

set_option maxRecDepth 100000 in
theorem next_none (w : World) (b cap : Nat) (F : List Nat) (h : PipeAt w b cap false [] F) :
    Calls Try.prog 31 #[.pointer (some ⟨b, 0, none⟩)] w fun e w' => e = .returned (.tuple #[(.string ⟨#[]⟩), .bool false]) ∧ w' = w := by
  obtain ⟨c, t, s, r, hb, hc, hq, rfl⟩ := h
  have hbl : b < w.heap.size := (Array.getElem?_eq_some_iff.1 hb).1
  have hcl : c < w.heap.size := (Array.getElem?_eq_some_iff.1 hc).1
  have c0 : w.cell? ⟨b, 0, none⟩ = some (.chan (some c)) := by rw [cell_of_cells hb]; rfl
  have hce : w.heap[c]? = some (.chan cap #[] false s r false) := hc
  clear hb hq hc
  refine calls_of_loneTo fun cs => ?_
  have e : Frame.enter Try.prog 31 #[.pointer (some ⟨b, 0, none⟩)] .normal = (base 31).at ⟨#[.pointer (some ⟨b, 0, none⟩), undef, undef, undef, undef, undef, undef, undef, undef, undef, undef, undef, undef, undef, undef, undef, undef, undef, undef, undef, undef], []⟩ [.code (Try.f31.body.getD .skip)] := by
    simp [Frame.enter, Frame.at, Try.func31, base, Try.f31]
  rw [e]
  refine LoneTo.goes (n := 40) ?_
  simp only [Try.f31, Option.getD_some]
  s_c stepG_seq
  s_reg
  s_op
  s_op
  s_c stepG_region_end
  s_c stepG_seq
  s_c stepG_seq
  s_reg
  s_op
  s_op
  s_op
  s_op
  s_c stepG_region_end
  s_c stepG_seq
  s_reg
  s_stop
  refine LoneTo.step (step_lone_select_default (c := c) (z := .pointer none) (stepG_comm (cases := #[rcase c (.pointer none)]) (blocking := false) (shape := .select) (w' := w) rfl rfl (by decide) (by simp [go_sem, execOp, rcase, Act.eval])) hce) ?_
  rw [Frame.finish_at]
  walk_nrm
  refine LoneTo.goes (n := 40) ?_
  s_op
  s_op
  s_c stepG_region_end
  s_c stepG_block
  s_cond false
  s_c stepG_skip
  s_c stepG_inBlock
  s_c stepG_seq
  s_reg
  s_op
  s_c stepG_region_end
  s_c stepG_seq
  s_reg
  s_op
  s_op
  s_op
  s_c stepG_region_end
  s_c stepG_ret'
  s_stop
  refine LoneTo.done ⟨.returned (.tuple #[(.string ⟨#[]⟩), .bool false]), _, rfl, ⟨rfl, rfl⟩, rfl, rfl, rfl, rfl, _, Try.func31, by simp [results, Try.f31, Frame.at]⟩

set_option maxRecDepth 100000 in
theorem next_shut (w : World) (b cap : Nat) (F : List Nat) (h : PipeAt w b cap true [] F) :
    Calls Try.prog 31 #[.pointer (some ⟨b, 0, none⟩)] w fun e w' => e = .returned (.tuple #[(.string ⟨#[]⟩), .bool false]) ∧ w' = w := by
  obtain ⟨c, t, s, r, hb, hc, hq, rfl⟩ := h
  have hbl : b < w.heap.size := (Array.getElem?_eq_some_iff.1 hb).1
  have hcl : c < w.heap.size := (Array.getElem?_eq_some_iff.1 hc).1
  have c0 : w.cell? ⟨b, 0, none⟩ = some (.chan (some c)) := by rw [cell_of_cells hb]; rfl
  have hce : w.heap[c]? = some (.chan cap #[] true s r false) := hc
  clear hb hq hc
  refine calls_of_loneTo fun cs => ?_
  have e : Frame.enter Try.prog 31 #[.pointer (some ⟨b, 0, none⟩)] .normal = (base 31).at ⟨#[.pointer (some ⟨b, 0, none⟩), undef, undef, undef, undef, undef, undef, undef, undef, undef, undef, undef, undef, undef, undef, undef, undef, undef, undef, undef, undef], []⟩ [.code (Try.f31.body.getD .skip)] := by
    simp [Frame.enter, Frame.at, Try.func31, base, Try.f31]
  rw [e]
  refine LoneTo.goes (n := 40) ?_
  simp only [Try.f31, Option.getD_some]
  s_c stepG_seq
  s_reg
  s_op
  s_op
  s_c stepG_region_end
  s_c stepG_seq
  s_c stepG_seq
  s_reg
  s_op
  s_op
  s_op
  s_op
  s_c stepG_region_end
  s_c stepG_seq
  s_reg
  s_stop
  refine LoneTo.step (step_lone_select_recv_shut (c := c) (z := .pointer none) (stepG_comm (cases := #[rcase c (.pointer none)]) (blocking := false) (shape := .select) (w' := w) rfl rfl (by decide) (by simp [go_sem, execOp, rcase, Act.eval])) hce) ?_
  rw [Frame.finish_at]
  walk_nrm
  refine LoneTo.goes (n := 40) ?_
  s_op
  s_op
  s_c stepG_region_end
  s_c stepG_block
  s_cond true
  s_c stepG_seq
  s_reg
  s_op
  s_op
  s_op
  s_op
  s_c stepG_region_end
  s_c stepG_seq
  s_reg
  s_op
  s_c stepG_region_end
  s_cond false
  s_c stepG_skip
  s_c stepG_inBlock
  s_c stepG_seq
  s_reg
  s_op
  s_c stepG_region_end
  s_c stepG_seq
  s_reg
  s_op
  s_op
  s_op
  s_c stepG_region_end
  s_c stepG_ret'
  s_stop
  refine LoneTo.done ⟨.returned (.tuple #[(.string ⟨#[]⟩), .bool false]), _, rfl, ⟨rfl, rfl⟩, rfl, rfl, rfl, rfl, _, Try.func31, by simp [results, Try.f31, Frame.at]⟩

set_option maxRecDepth 100000 in
theorem close_shut (w : World) (b cap : Nat) (qs : List (Nat × Value)) (F : List Nat) (h : PipeAt w b cap true qs F) :
    Calls Try.prog 32 #[.pointer (some ⟨b, 0, none⟩)] w fun e w' => e = .returned (.tuple #[]) ∧ w' = w := by
  obtain ⟨c, t, s, r, hb, hc, hq, rfl⟩ := h
  have c1 : w.cell? ⟨b, 1, none⟩ = some (.bool true) := by rw [cell_of_cells hb]; rfl
  clear hb hc hq
  go_enter Try.func32, Try.ntmps32
  go_wp2
  go_end0
  exact ⟨rfl, rfl⟩

set_option maxRecDepth 100000 in
theorem close_open (w : World) (b cap : Nat) (qs : List (Nat × Value)) (F : List Nat) (h : PipeAt w b cap false qs F) :
    Calls Try.prog 32 #[.pointer (some ⟨b, 0, none⟩)] w fun e w' => e = .returned (.tuple #[]) ∧ PipeAt w' b cap true qs F ∧ Turns F F w w' := by
  obtain ⟨c, t, s, r, hb, hc, hq, rfl⟩ := h
  have hbc : b ≠ c := fun e => by rw [e, hc] at hb; cases hb
  have hcb : c ≠ b := fun e => hbc e.symm
  have c1 : w.cell? ⟨b, 1, none⟩ = some (.bool false) := by rw [cell_of_cells hb]; rfl
  have c0 : w.cell? ⟨b, 0, none⟩ = some (.chan (some c)) := by rw [cell_of_cells hb]; rfl
  have f1 : w.frozen? ⟨b, 1, none⟩ = false := unfrozen_of_cells hb 1
  have hc1 : (w.setCell ⟨b, 1, none⟩ (.bool true)).heap[c]? = some (.chan cap (ptrs qs) false s r false) := (Below.heap_setCell _ _ _ _ hcb).trans hc
  have hcl := fun ats ty => run_close_open (P := Try.prog) (w := w.setCell ⟨b, 1, none⟩ (.bool true)) ats ty hc1
  have HB := Lib.hid (And.intro hb (And.intro hc hq))
  clear hb hc hq
  go_enter Try.func32, Try.ntmps32
  go_wp2
  go_end0
  obtain ⟨hb, hc, hq⟩ := HB.out
  have hcl : c < w.heap.size := (Array.getElem?_eq_some_iff.1 hc).1
  refine ⟨rfl, ?_, ?_⟩
  · show PipeAt ((w.setCell ⟨b, 1, none⟩ (.bool true)).setChan c cap (ptrs qs) true s r false) b cap true qs _
    refine ⟨c, t, s, r, (setChan_ne _ _ _ _ _ _ _ hbc).trans (heap_setCell_cells hb 1 _), heap_setChan _ _ _ _ _ _ _ _ (by simpa [World.setCell] using hcl), fun q hq1 => ?_, rfl⟩
    obtain ⟨u, hu⟩ := hq q hq1
    have hqc : q.1 ≠ c := fun e => by rw [e, hc] at hu; cases hu
    have hqb : q.1 ≠ b := fun e => by rw [e, hb] at hu; injection hu with hu; injection hu with hu; have := congrArg Array.size hu; simp at this
    exact ⟨u, (setChan_ne _ _ _ _ _ _ _ hqc).trans ((Below.heap_setCell _ _ _ _ hqb).trans hu)⟩
  · exact ((Turns.refl (b :: c :: qs.map (·.1)) w).setCell (p := ⟨b, 1, none⟩) (by simp) _).setChan (c := c) (by simp) _ _ _ _ _ _

theorem chan_bytes : ∃ i, Try.prog.info? 78 = some i ∧ i.bytes = 8 := by
  have h : (Try.prog.info? 78).map (·.bytes) = some 8 := by kernel_rfl
  obtain ⟨i, hi, hb⟩ := Option.map_eq_some_iff.1 h
  exact ⟨i, hi, hb⟩
theorem mkchan (w : World) (n : Nat) (h : n ≤ 65536) (m : Int) (hm : m = n) : (Instr.makeChan 75 (.int .i64 m)).run Try.prog w = .ok (.chan (some w.heap.size)) (w.alloc (.chan n #[] false 0 0 false)) := by
  obtain ⟨i, hi, hb⟩ := chan_bytes
  subst hm
  exact run_makeChan (P := Try.prog) (w := w) Try.underlying75 hi .i64 n (by omega) (by rw [hb]; omega)
theorem new_post (w : World) (n : Nat) : PipeAt ((w.alloc (.chan n #[] false 0 0 false)).alloc (.cells #[.chan (some w.heap.size), .bool false] 77)) (w.heap.size + 1) n false [] [w.heap.size + 1, w.heap.size] := by
  have h1 := heap_alloc_new (w.alloc (.chan n #[] false 0 0 false)) (.cells #[.chan (some w.heap.size), .bool false] 77)
  rw [World.size_alloc] at h1
  exact ⟨w.heap.size, _, 0, 0, h1, (Below.heap_alloc _ _ _ (by simp)).trans (heap_alloc_new w _), fun q hq => (by cases hq), rfl⟩

set_option maxHeartbeats 1000000 in
set_option maxRecDepth 100000 in
theorem new_any (w : World) (room : Int) (n : Nat) (hn : (n : Int) = max 1 (min room 65536)) :
    Calls Try.prog 29 #[.int .i64 room] w fun e w' => ∃ b F, e = .returned (.pointer (some ⟨b, 0, none⟩)) ∧ PipeAt w' b n false [] F ∧ Below w.heap.size w w' ∧ ∀ k, k ∈ F → w.heap.size ≤ k := by
  have hpost : ∃ b F, Ending.returned (.pointer (some ⟨w.heap.size + 1, 0, none⟩)) = .returned (.pointer (some ⟨b, 0, none⟩)) ∧ PipeAt ((w.alloc (.chan n #[] false 0 0 false)).alloc (.cells #[.chan (some w.heap.size), .bool false] 77)) b n false [] F ∧ Below w.heap.size w ((w.alloc (.chan n #[] false 0 0 false)).alloc (.cells #[.chan (some w.heap.size), .bool false] 77)) ∧ ∀ k, k ∈ F → w.heap.size ≤ k :=
    ⟨w.heap.size + 1, _, rfl, new_post w n, ((Below.refl _ w).alloc (Nat.le_refl _) _).alloc (by simp) _, fun k hk => by simp at hk; omega⟩
  have HP := Lib.hid hpost
  clear hpost
  by_cases h1 : room < 1
  · have hn1 : (n : Int) = 1 := by omega
    have hm := mkchan w n (by omega) 1 hn1.symm
    clear hn hn1
    go_enter Try.func29, Try.ntmps29
    go_wp2
    all_goals first | omega | (go_ret; first | exact HP.out | (obtain ⟨b, F, h1, h2⟩ := HP.out; exact ⟨b, h1, F, h2⟩) | (obtain ⟨b, F, h1, h2, h3, h4⟩ := HP.out; exact ⟨b, h1, ⟨F, h2, h4⟩, h3⟩) | (obtain ⟨b, F, h1, h2, h3, h4⟩ := HP.out; exact ⟨b, h1, F, h2, h4, h3⟩))
  · by_cases h2 : room ≤ 65536
    · have hn1 : room = (n : Int) := by omega
      have hm := mkchan w n (by omega) room hn1
      have h3 : 1 ≤ room := by omega
      clear hn hn1
      go_enter Try.func29, Try.ntmps29
      go_wp2
      all_goals first | omega | (go_ret; first | exact HP.out | (obtain ⟨b, F, h1, h2⟩ := HP.out; exact ⟨b, h1, F, h2⟩) | (obtain ⟨b, F, h1, h2, h3, h4⟩ := HP.out; exact ⟨b, h1, ⟨F, h2, h4⟩, h3⟩) | (obtain ⟨b, F, h1, h2, h3, h4⟩ := HP.out; exact ⟨b, h1, F, h2, h4, h3⟩))
    · have hn1 : (n : Int) = 65536 := by omega
      have hm := mkchan w n (by omega) 65536 hn1.symm
      have h3 : 65536 < room := by omega
      have h4 : 1 ≤ room := by omega
      clear hn hn1
      go_enter Try.func29, Try.ntmps29
      go_wp2
      all_goals first | omega | (go_ret; first | exact HP.out | (obtain ⟨b, F, h1, h2⟩ := HP.out; exact ⟨b, h1, F, h2⟩) | (obtain ⟨b, F, h1, h2, h3, h4⟩ := HP.out; exact ⟨b, h1, ⟨F, h2, h4⟩, h3⟩) | (obtain ⟨b, F, h1, h2, h3, h4⟩ := HP.out; exact ⟨b, h1, F, h2, h4, h3⟩))

end Go.Proofs.Ytmfejibllhccaaa.Hps
