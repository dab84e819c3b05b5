/-
  Layer 11: what the program's object is to answer, function by function (Faces); the statements' awake.
-/
import Derived.Test.YtapjgdhdgpakhaaGreatDoorOh
namespace Go.Proofs.YtapjgdhdgpakhaaGreatDoor.Hj
open Go.RowKit Ob Hr
set_option linter.unusedVariables false

theorem Small.of_zero : Small zero := ⟨by decide, by decide, by decide, by decide, by decide, by decide, by decide, (fun e he => by cases he), (fun p hp => by cases hp)⟩
theorem ent_small {size : Nat} {e : Ent} (h : entOk size e = true) (hs : size ≤ 32) : e.name.size ≤ 64 ∧ e.id.size ≤ 32 := by
  obtain ⟨_, h1, h2⟩ := ent_facts h
  have := (name_facts h1).2.1
  rw [bl_length] at this
  omega
theorem right_small {o : Thing} {sp : Int} (h : right o sp = true) : Small o := by
  obtain ⟨_, hs, hc⟩ := right_parts h
  have hz := spSize_le sp
  generalize spSize sp = size at *
  unfold shaped at hs
  by_cases k1 : o.kind = 1
  · rw [if_pos k1] at hs
    simp only [bare, noCommit, noTag, Bool.and_eq_true, decide_eq_true_eq, List.length_eq_zero_iff] at hs
    obtain ⟨⟨⟨⟨h1, h2⟩, h3, h4⟩, ⟨h5, h6⟩, h7⟩, h8⟩ := hs
    have ht : o.text.size ≤ 65536 := by simpa [content, k1, bl_length] using hc
    refine ⟨by omega, by rw [h8]; simp, by omega, by rw [h4]; simp, by omega, by omega, by omega, (fun e he => by rw [h8] at he; cases he), (fun p hp => by rw [h4] at hp; cases hp)⟩
  · rw [if_neg k1] at hs
    by_cases k2 : o.kind = 2
    · rw [if_pos k2] at hs
      simp only [bare, noCommit, noTag, Bool.and_eq_true, decide_eq_true_eq, List.length_eq_zero_iff] at hs
      obtain ⟨⟨⟨⟨⟨⟨h1, h2⟩, h3, h4⟩, ⟨h5, h6⟩, h7⟩, h8⟩, h9⟩, h10⟩ := hs
      refine ⟨by omega, by omega, by omega, by rw [h4]; simp, by omega, by omega, by omega, fun e he => ?_, (fun p hp => by rw [h4] at hp; cases hp)⟩
      have := ent_small (ents_facts h10 e he) hz
      omega
    · rw [if_neg k2] at hs
      have ht : o.text.size ≤ 65536 := by
        have hk := shaped_kind (right_parts h).2.1
        have hcc := content_text o o.text hk k2
        rw [show withText o o.text = o from rfl] at hcc
        have := congrArg List.length hcc
        rw [List.length_append, bl_length] at this
        omega
      by_cases k3 : o.kind = 3
      · rw [if_pos k3] at hs
        simp only [signed, noTag, Bool.and_eq_true, decide_eq_true_eq, List.length_eq_zero_iff, List.all_eq_true] at hs
        obtain ⟨⟨⟨⟨⟨⟨⟨⟨h1, h2⟩, h3⟩, ⟨h4, h5⟩, h6⟩, h7⟩, h8⟩, h9⟩, h10⟩, h11⟩ := hs
        have hw := who_plain h1
        refine ⟨by omega, by rw [h7]; simp, by omega, by omega, by omega, by omega, by omega, (fun e he => by rw [h7] at he; cases he), fun p hp => ?_⟩
        have := h10 p hp
        omega
      · rw [if_neg k3] at hs
        by_cases k4 : o.kind = 4
        · rw [if_pos k4] at hs
          simp only [signed, noCommit, Bool.and_eq_true, decide_eq_true_eq, List.length_eq_zero_iff] at hs
          obtain ⟨⟨⟨⟨⟨⟨⟨⟨⟨h1, h2⟩, h3⟩, h4, h5⟩, h6⟩, _⟩, h7⟩, h8⟩, h9⟩, h10⟩ := hs
          have hw := who_plain h1
          have hn := tag_plain h10
          rw [bl_length] at hn
          refine ⟨by omega, by rw [h6]; simp, by omega, by rw [h5]; simp, by omega, by omega, by omega, (fun e he => by rw [h6] at he; cases he), (fun p hp => by rw [h5] at hp; cases hp)⟩
        · rw [if_neg k4] at hs; simp at hs
theorem parse_small (k : Int) (c : List UInt8) (sp : Int) : Small (parseF k c sp).1 := by
  by_cases h : (parseF k c sp).2 = 0
  · have he : parseF k c sp = ((parseF k c sp).1, 0) := by rw [← h]
    exact right_small (parse_some he).2.1
  · rw [parse_zero h]; exact Small.of_zero
theorem parse_err (k : Int) (c : List UInt8) (sp : Int) : (parseF k c sp).2 = 0 ∨ (0 < (parseF k c sp).2 ∧ (parseF k c sp).2 ≤ 9) := by
  unfold parseF
  repeat' split
  all_goals simp

/-- the program's object, function by function; K: what is known of the world (tables in their place) -/
structure Faces (K : World → Prop) : Prop where
  under : ∀ w w', K w → Below w.heap.size w w' → K w'
  right : ∀ (o : Thing) (A : Option Addr) (c : Nat) (P : Option Addr) (d : Nat) (sp : Int) (w : World), K w → Lies w w.heap.size o A P → Small o → o.parents.length ≤ d → Calls Tryz.prog 15 #[.agg (objC o A c P d), .int .i64 sp] w fun e w' => e = .returned (.bool (Ob.right o sp)) ∧ Below w.heap.size w w'
  print : ∀ (o : Thing) (A : Option Addr) (c : Nat) (P : Option Addr) (d : Nat) (sp : Int) (w : World), K w → Lies w w.heap.size o A P → Small o → o.parents.length ≤ d → Calls Tryz.prog 10 #[.agg (objC o A c P d), .int .i64 sp] w fun e w' => e = .returned (.tuple #[.string (printF o sp).1, .int .i64 (printF o sp).2]) ∧ Below w.heap.size w w'
  parse : ∀ (k : Int) (s : ByteArray) (sp : Int) (w : World), K w → s.size ≤ 100000 → Calls Tryz.prog 12 #[.int .i64 k, .string s, .int .i64 sp] w fun e w' => ∃ A c P d, e = .returned (.tuple #[.agg (objC (parseF k (bl s) sp).1 A c P d), .int .i64 (parseF k (bl s) sp).2]) ∧ (Lies w' w'.heap.size (parseF k (bl s) sp).1 A P ∧ (parseF k (bl s) sp).1.parents.length ≤ d) ∧ Below w.heap.size w w'
  same : ∀ (o p : Thing) (A : Option Addr) (c : Nat) (P : Option Addr) (d : Nat) (A' : Option Addr) (c' : Nat) (P' : Option Addr) (d' : Nat) (w : World), K w → Lies w w.heap.size o A P → Lies w w.heap.size p A' P' → Small o → Small p → Calls Tryz.prog 17 #[.agg (objC o A c P d), .agg (objC p A' c' P' d')] w fun e w' => e = .returned (.bool (Ob.same o p)) ∧ Below w.heap.size w w'
  tag : ∀ (s : ByteArray) (w : World), K w → s.size ≤ 100000 → Calls Tryz.prog 18 #[.string s] w fun e w' => e = .returned (.bool (tagName (bl s))) ∧ Below w.heap.size w w'
  ent : ∀ (s : ByteArray) (w : World), K w → s.size ≤ 100000 → Calls Tryz.prog 20 #[.string s] w fun e w' => e = .returned (.bool (entryName (bl s))) ∧ Below w.heap.size w w'

theorem Faces.parse' {K : World → Prop} (F : Faces K) (k : Int) (s : ByteArray) (sp : Int) (w : World) (hK : K w) (hs : s.size ≤ 100000) : Calls Tryz.prog 12 #[.int .i64 k, .string s, .int .i64 sp] w fun e w' => ∃ A c P d, e = .returned (.tuple #[.agg (objC (parseF k (bl s) sp).1 A c P d), .int .i64 (parseF k (bl s) sp).2]) ∧ Lies w' w'.heap.size (parseF k (bl s) sp).1 A P ∧ Below w.heap.size w w' :=
  (F.parse k s sp w hK hs).mono fun e w' ⟨A, c, P, d, h1, h2, h3⟩ => ⟨A, c, P, d, h1, h2.1, h3⟩

/-! ### awake -/
def tagO : Thing := ⟨4, ⟨#[104, 105]⟩, [], ⟨#[]⟩, [], ⟨#[48, 49, 50, 51, 52, 53, 54, 55, 56, 57, 48, 49, 50, 51, 52, 53, 54, 55, 56, 57]⟩, 3, ⟨#[118, 49]⟩, ⟨#[109, 101]⟩, 5⟩
def tagS : ByteArray := ⟨#[111, 98, 106, 101, 99, 116, 32, 51, 48, 51, 49, 51, 50, 51, 51, 51, 52, 51, 53, 51, 54, 51, 55, 51, 56, 51, 57, 51, 48, 51, 49, 51, 50, 51, 51, 51, 52, 51, 53, 51, 54, 51, 55, 51, 56, 51, 57, 10, 116, 121, 112, 101, 32, 99, 111, 109, 109, 105, 116, 10, 116, 97, 103, 32, 118, 49, 10, 116, 97, 103, 103, 101, 114, 32, 109, 101, 32, 53, 10, 10, 104, 105]⟩
theorem tag_right : Ob.right tagO 1 = true := by kernel_rfl
theorem tag_wrong : Ob.right tagO 2 = false := by kernel_rfl
theorem tag_content : content tagO = bl tagS := by kernel_rfl
theorem tag_print : printF tagO 1 = (tagS, 0) := by rw [print_ok tag_right, tag_content, str_bl]
theorem tag_parse : parseF 4 (bl tagS) 1 = (tagO, 0) := by
  have h := parse_of tag_right
  rwa [tag_content] at h
theorem tag_not : parseF 4 (bl tagS) 2 = (zero, 3) := by kernel_rfl
theorem tag_small : Small tagO := right_small tag_right
theorem tag_self : Ob.same tagO tagO = true := same_iff.2 rfl
theorem tag_other : Ob.same tagO zero = false := by
  cases h : Ob.same tagO zero with
  | false => rfl
  | true => have := congrArg Thing.kind (same_iff.1 h); simp [tagO, zero] at this
theorem lies_nil (w : World) (B : Nat) (o : Thing) (h1 : o.ents = []) (h2 : o.parents = []) (A P : Option Addr) : Lies w B o A P :=
  ⟨by rw [h1]; exact recs_nil w B A, by rw [h2]; intro i hi; cases hi⟩
end Go.Proofs.YtapjgdhdgpakhaaGreatDoor.Hj
