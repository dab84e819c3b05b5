/-
  Layer 8 as Lean functions: what tokens tell (goF, openF), and what a row of tokens says of a text (Says). No part of the program is named here.
  Bytes that a call owns, appended to: strings, one byte, three bytes (layer 8).
  The contract of the document's Open (layer 8).
-/
import GoSem.Claim
import Derived.Test.YtmbbigmnliiadaaDoorB1
import Derived.Lib.AppendStr
import Derived.Maps.AppendAt
import Derived.StillTailTactics
import Derived.Deep.DeepCutAuto
import Derived.Deep.CutBlock
import Derived.BigQuiet
namespace Go.Proofs.YtmbbigmnliiadaaDoor.Sq

/-- n bytes more, each the one that stands d bytes ahead of the end -/
def agn : Nat → Nat → List UInt8 → List UInt8
  | 0, _, t => t
  | n + 1, d, t => agn n d (t ++ [t.getD (t.length - d) 0])
theorem agn_length (n d : Nat) (t : List UInt8) : (agn n d t).length = t.length + n := by
  induction n generalizing t with
  | zero => rfl
  | succ n ih => rw [agn, ih]; simp; omega
/-- one more, at the end -/
theorem agn_snoc (n d : Nat) (t : List UInt8) : agn (n + 1) d t = agn n d t ++ [(agn n d t).getD ((agn n d t).length - d) 0] := by
  induction n generalizing t with
  | zero => rfl
  | succ n ih => rw [agn, ih, ← agn]

/-- the first token's size; 0: the first token is wrong -/
def dist (s : List UInt8) : Nat := (s.getD 1 0).toNat * 256 + (s.getD 2 0).toNat
def code (most : Nat) (told s : List UInt8) : Int :=
  let c := (s.getD 0 0).toNat
  if c < 128 then (if s.length < c + 2 then 2 else if most < told.length + (c + 1) then 9 else 0)
  else (if s.length < 3 then 2 else if dist s = 0 ∨ told.length < dist s then 3 else if most < told.length + (c - 124) then 9 else 0)
def size (s : List UInt8) : Nat := if (s.getD 0 0).toNat < 128 then (s.getD 0 0).toNat + 2 else 3
def tells (told s : List UInt8) : List UInt8 :=
  if (s.getD 0 0).toNat < 128 then told ++ (s.drop 1).take ((s.getD 0 0).toNat + 1) else agn ((s.getD 0 0).toNat - 124) (dist s) told
theorem size_pos (s : List UInt8) : 2 ≤ size s := by unfold size; split <;> omega

/-- the text that tokens tell, behind what was told -/
def goF (most : Nat) (told s : List UInt8) : List UInt8 × Int :=
  match s with
  | [] => (told, 0)
  | c :: r => if code most told (c :: r) = 0 then goF most (tells told (c :: r)) ((c :: r).drop (size (c :: r))) else ([], code most told (c :: r))
termination_by s.length
decreasing_by
  have := size_pos (c :: r)
  simp only [List.length_drop, List.length_cons]
  omega
theorem go_nil (most : Nat) (told : List UInt8) : goF most told [] = (told, 0) := by rw [goF]
theorem go_bad {most : Nat} {told s : List UInt8} (h : s ≠ []) (hc : code most told s ≠ 0) : goF most told s = ([], code most told s) := by
  cases s with
  | nil => exact absurd rfl h
  | cons c r => rw [goF, if_neg hc]
theorem go_good {most : Nat} {told s : List UInt8} (h : s ≠ []) (hc : code most told s = 0) : goF most told s = goF most (tells told s) (s.drop (size s)) := by
  cases s with
  | nil => exact absurd rfl h
  | cons c r => rw [goF, if_pos hc]

def openF (s : List UInt8) (most : Nat) : List UInt8 × Int :=
  match s with
  | [] => ([], 2)
  | c :: r => if c.toNat = 0 then (if most < r.length then ([], 9) else (r, 0)) else if c.toNat = 1 then goF most [] r else ([], 3)

/-- what a token that is good leaves is no longer than the room -/
theorem tells_length {most : Nat} {told s : List UInt8} (hc : code most told s = 0) : (tells told s).length ≤ most := by
  unfold code at hc
  unfold tells
  by_cases h : (s.getD 0 0).toNat < 128
  · simp only [if_pos h] at hc ⊢
    by_cases h1 : s.length < (s.getD 0 0).toNat + 2
    · rw [if_pos h1] at hc; exact absurd hc (by decide)
    · rw [if_neg h1] at hc
      by_cases h2 : most < told.length + ((s.getD 0 0).toNat + 1)
      · rw [if_pos h2] at hc; exact absurd hc (by decide)
      · rw [List.length_append, List.length_take, List.length_drop]; omega
  · simp only [if_neg h] at hc ⊢
    by_cases h1 : s.length < 3
    · rw [if_pos h1] at hc; exact absurd hc (by decide)
    · rw [if_neg h1] at hc
      by_cases h2 : dist s = 0 ∨ told.length < dist s
      · rw [if_pos h2] at hc; exact absurd hc (by decide)
      · rw [if_neg h2] at hc
        by_cases h3 : most < told.length + ((s.getD 0 0).toNat - 124)
        · rw [if_pos h3] at hc; exact absurd hc (by decide)
        · rw [agn_length]; omega

/-- what tokens say, from the first to the last -/
inductive Says : List UInt8 → List UInt8 → Prop
  | none : Says [] []
  | lit (c t b : List UInt8) (h : Says c t) (h1 : 1 ≤ b.length) (h2 : b.length ≤ 128) : Says (c ++ UInt8.ofNat (b.length - 1) :: b) (t ++ b)
  | back (c t : List UInt8) (n d : Nat) (h : Says c t) (h1 : 4 ≤ n) (h2 : n ≤ 131) (h3 : 1 ≤ d) (h4 : d ≤ 65535) (h5 : d ≤ t.length) :
      Says (c ++ [UInt8.ofNat (n + 124), UInt8.ofNat (d / 256), UInt8.ofNat (d % 256)]) (agn n d t)

theorem u8 {n : Nat} (h : n < 256) : (UInt8.ofNat n).toNat = n := by rw [UInt8.toNat_ofNat']; exact Nat.mod_eq_of_lt h

theorem lit_code (most : Nat) (t b rest : List UInt8) (h1 : 1 ≤ b.length) (h2 : b.length ≤ 128) : code most t (UInt8.ofNat (b.length - 1) :: b ++ rest) = if most < t.length + b.length then 9 else 0 := by
  have hc : (UInt8.ofNat (b.length - 1)).toNat = b.length - 1 := u8 (by omega)
  unfold code
  simp only [List.cons_append, List.getD_cons_zero, hc]
  rw [if_pos (by omega), if_neg (by simp; omega), show b.length - 1 + 1 = b.length by omega]
theorem lit_tells (t b rest : List UInt8) (h1 : 1 ≤ b.length) (h2 : b.length ≤ 128) : tells t (UInt8.ofNat (b.length - 1) :: b ++ rest) = t ++ b := by
  have hc : (UInt8.ofNat (b.length - 1)).toNat = b.length - 1 := u8 (by omega)
  unfold tells
  simp only [List.cons_append, List.getD_cons_zero, hc]
  rw [if_pos (by omega), show b.length - 1 + 1 = b.length by omega]
  simp
theorem lit_size (b rest : List UInt8) (h1 : 1 ≤ b.length) (h2 : b.length ≤ 128) : (UInt8.ofNat (b.length - 1) :: b ++ rest).drop (size (UInt8.ofNat (b.length - 1) :: b ++ rest)) = rest := by
  have hc : (UInt8.ofNat (b.length - 1)).toNat = b.length - 1 := u8 (by omega)
  unfold size
  simp only [List.cons_append, List.getD_cons_zero, hc]
  rw [if_pos (by omega), show b.length - 1 + 2 = b.length + 1 by omega]
  simp
theorem back_dist (n d : Nat) (rest : List UInt8) (h4 : d ≤ 65535) : dist ([UInt8.ofNat (n + 124), UInt8.ofNat (d / 256), UInt8.ofNat (d % 256)] ++ rest) = d := by
  have e1 : (UInt8.ofNat (d / 256)).toNat = d / 256 := u8 (by omega)
  have e2 : (UInt8.ofNat (d % 256)).toNat = d % 256 := u8 (by omega)
  unfold dist
  simp only [List.cons_append, List.getD_cons_zero, List.getD_cons_succ, e1, e2]
  omega
theorem back_code (most : Nat) (t rest : List UInt8) (n d : Nat) (h1 : 4 ≤ n) (h2 : n ≤ 131) (h3 : 1 ≤ d) (h4 : d ≤ 65535) (h5 : d ≤ t.length) :
    code most t ([UInt8.ofNat (n + 124), UInt8.ofNat (d / 256), UInt8.ofNat (d % 256)] ++ rest) = if most < t.length + n then 9 else 0 := by
  have hc : (UInt8.ofNat (n + 124)).toNat = n + 124 := u8 (by omega)
  have hd := back_dist n d rest h4
  unfold code
  rw [hd]
  simp only [List.cons_append, List.getD_cons_zero, hc]
  rw [if_neg (by omega), if_neg (by simp), if_neg (by omega), show n + 124 - 124 = n by omega]
theorem back_tells (t rest : List UInt8) (n d : Nat) (h1 : 4 ≤ n) (h2 : n ≤ 131) (h4 : d ≤ 65535) :
    tells t ([UInt8.ofNat (n + 124), UInt8.ofNat (d / 256), UInt8.ofNat (d % 256)] ++ rest) = agn n d t := by
  have hc : (UInt8.ofNat (n + 124)).toNat = n + 124 := u8 (by omega)
  have hd := back_dist n d rest h4
  unfold tells
  rw [hd]
  simp only [List.cons_append, List.getD_cons_zero, hc]
  rw [if_neg (by omega), show n + 124 - 124 = n by omega]
theorem back_size (n d : Nat) (rest : List UInt8) (h1 : 4 ≤ n) (h2 : n ≤ 131) :
    ([UInt8.ofNat (n + 124), UInt8.ofNat (d / 256), UInt8.ofNat (d % 256)] ++ rest).drop (size ([UInt8.ofNat (n + 124), UInt8.ofNat (d / 256), UInt8.ofNat (d % 256)] ++ rest)) = rest := by
  have hc : (UInt8.ofNat (n + 124)).toNat = n + 124 := u8 (by omega)
  unfold size
  simp only [List.cons_append, List.getD_cons_zero, hc]
  rw [if_neg (by omega)]
  simp

theorem says_go {c t : List UInt8} (h : Says c t) (most : Nat) : (t.length ≤ most → ∀ rest, goF most [] (c ++ rest) = goF most t rest) ∧ (most < t.length → ∀ rest, goF most [] (c ++ rest) = ([], 9)) := by
  induction h with
  | none => exact ⟨fun _ rest => by simp, fun h => by simp at h⟩
  | lit c t b h h1 h2 ih =>
    refine ⟨fun hm rest => ?_, fun hm rest => ?_⟩
    · simp only [List.length_append] at hm
      have hc := lit_code most t b rest h1 h2
      rw [if_neg (by omega)] at hc
      rw [List.append_assoc, ih.1 (by omega), go_good (by simp) hc, lit_tells t b rest h1 h2, lit_size b rest h1 h2]
    · simp only [List.length_append] at hm
      by_cases ht : t.length ≤ most
      · have hc := lit_code most t b rest h1 h2
        rw [if_pos (by omega)] at hc
        rw [List.append_assoc, ih.1 ht, go_bad (by simp) (by rw [hc]; decide), hc]
      · rw [List.append_assoc]
        exact ih.2 (by omega) _
  | back c t n d h h1 h2 h3 h4 h5 ih =>
    refine ⟨fun hm rest => ?_, fun hm rest => ?_⟩
    · rw [agn_length] at hm
      have hc := back_code most t rest n d h1 h2 h3 h4 h5
      rw [if_neg (by omega)] at hc
      rw [List.append_assoc, ih.1 (by omega), go_good (by simp) hc, back_tells t rest n d h1 h2 h4, back_size n d rest h1 h2]
    · rw [agn_length] at hm
      by_cases ht : t.length ≤ most
      · have hc := back_code most t rest n d h1 h2 h3 h4 h5
        rw [if_pos (by omega)] at hc
        rw [List.append_assoc, ih.1 ht, go_bad (by simp) (by rw [hc]; decide), hc]
      · rw [List.append_assoc]
        exact ih.2 (by omega) _

theorem open_says {c t : List UInt8} (h : Says c t) (most : Nat) : openF (1 :: c) most = if t.length ≤ most then (t, 0) else ([], 9) := by
  have hg := says_go h most
  show (if (1 : UInt8).toNat = 0 then (if most < c.length then ([], 9) else (c, 0)) else if (1 : UInt8).toNat = 1 then goF most [] c else ([], 3)) = _
  rw [if_neg (by decide), if_pos (by decide)]
  split
  · rename_i hm
    have := hg.1 hm []
    rw [List.append_nil] at this
    rw [this, go_nil]
  · rename_i hm
    have := hg.2 (by omega) []
    rw [List.append_nil] at this
    exact this
theorem open_plain (t : List UInt8) (most : Nat) : openF (0 :: t) most = if t.length ≤ most then (t, 0) else ([], 9) := by
  show (if (0 : UInt8).toNat = 0 then (if most < t.length then ([], 9) else (t, 0)) else if (0 : UInt8).toNat = 1 then goF most [] t else ([], 3)) = _
  rw [if_pos (by decide)]
  split
  · rename_i h; rw [if_neg (by omega)]
  · rename_i h; rw [if_pos (by omega)]

/-- bytes of a text that stood ahead, told again -/
theorem agn_take (s : List UInt8) (at_ fr n : Nat) (hf : fr < at_) (hn : at_ + n ≤ s.length) (h : ∀ i, i < n → s.getD (fr + i) 0 = s.getD (at_ + i) 0) : agn n (at_ - fr) (s.take at_) = s.take (at_ + n) := by
  induction n with
  | zero => rfl
  | succ n ih =>
    have e := ih (by omega) (fun i hi => h i (by omega))
    rw [agn_snoc, e]
    have hl : (s.take (at_ + n)).length = at_ + n := by simp; omega
    rw [hl, show at_ + n - (at_ - fr) = fr + n by omega]
    have hg : (s.take (at_ + n)).getD (fr + n) 0 = s.getD (at_ + n) 0 := by
      rw [← h n (by omega)]
      simp [List.getD, show fr + n < at_ + n by omega]
    rw [hg, show at_ + (n + 1) = at_ + n + 1 by omega, List.take_add_one]
    congr 1
    simp [List.getD, List.getElem?_eq_getElem (show at_ + n < s.length by omega)]

section
variable {M n : Nat} {t s : List UInt8}
theorem litShort (hc : (s.getD 0 0).toNat = n) (h : n < 128) (h1 : s.length < n + 2) : code M t s = 2 := by unfold code; simp only [hc]; rw [if_pos h, if_pos h1]
theorem litLimit (hc : (s.getD 0 0).toNat = n) (h : n < 128) (h1 : n + 2 ≤ s.length) (h2 : M < t.length + (n + 1)) : code M t s = 9 := by unfold code; simp only [hc]; rw [if_pos h, if_neg (by omega), if_pos h2]
theorem litGood (hc : (s.getD 0 0).toNat = n) (h : n < 128) (h1 : n + 2 ≤ s.length) (h2 : t.length + (n + 1) ≤ M) : code M t s = 0 := by unfold code; simp only [hc]; rw [if_pos h, if_neg (by omega), if_neg (by omega)]
theorem litSize (hc : (s.getD 0 0).toNat = n) (h : n < 128) : size s = n + 2 := by unfold size; rw [hc, if_pos h]
theorem litTells (hc : (s.getD 0 0).toNat = n) (h : n < 128) : tells t s = t ++ (s.drop 1).take (n + 1) := by unfold tells; rw [hc, if_pos h]
theorem agShort (hc : (s.getD 0 0).toNat = n) (h : 128 ≤ n) (h1 : s.length < 3) : code M t s = 2 := by unfold code; simp only [hc]; rw [if_neg (by omega), if_pos h1]
theorem agForm (hc : (s.getD 0 0).toNat = n) (h : 128 ≤ n) (h1 : 3 ≤ s.length) (h2 : dist s = 0 ∨ t.length < dist s) : code M t s = 3 := by unfold code; simp only [hc]; rw [if_neg (by omega), if_neg (by omega), if_pos h2]
theorem agLimit (hc : (s.getD 0 0).toNat = n) (h : 128 ≤ n) (h1 : 3 ≤ s.length) (h2 : ¬ (dist s = 0 ∨ t.length < dist s)) (h3 : M < t.length + (n - 124)) : code M t s = 9 := by unfold code; simp only [hc]; rw [if_neg (by omega), if_neg (by omega), if_neg h2, if_pos h3]
theorem agGood (hc : (s.getD 0 0).toNat = n) (h : 128 ≤ n) (h1 : 3 ≤ s.length) (h2 : ¬ (dist s = 0 ∨ t.length < dist s)) (h3 : t.length + (n - 124) ≤ M) : code M t s = 0 := by unfold code; simp only [hc]; rw [if_neg (by omega), if_neg (by omega), if_neg h2, if_neg (by omega)]
theorem agSize (hc : (s.getD 0 0).toNat = n) (h : 128 ≤ n) : size s = 3 := by unfold size; rw [hc, if_neg (by omega)]
theorem agTells (hc : (s.getD 0 0).toNat = n) (h : 128 ≤ n) : tells t s = agn (n - 124) (dist s) t := by unfold tells; rw [hc, if_neg (by omega)]
theorem go_code {c : Int} (h : s ≠ []) (hc : code M t s = c) (h0 : c ≠ 0) : goF M t s = ([], c) := by rw [go_bad h (by rw [hc]; exact h0), hc]
end
theorem drop_cons_ne {s : List UInt8} {k : Nat} (h : k < s.length) : s.drop k ≠ [] := by simp; omega
theorem drop_getD (s : List UInt8) (k j : Nat) : (s.drop k).getD j 0 = s.getD (k + j) 0 := by simp [List.getD]
end Go.Proofs.YtmbbigmnliiadaaDoor.Sq
namespace Go.Proofs.YtmbbigmnliiadaaDoor.Hg
open Go.RowKit
set_option linter.unusedVariables false

theorem cell_of_cells {w : World} {b t : Nat} {cs : Array Value} {fr : Nat × Nat} (h : w.heap[b]? = some (.cells cs t fr)) (i : Nat) : w.cell? ⟨b, i, none⟩ = cs[i]? := by simp [World.cell?, h]
theorem unfrozen_of_cells {w : World} {b t : Nat} {cs : Array Value} (h : w.heap[b]? = some (.cells cs t (0, 0))) (i : Nat) : w.frozen? ⟨b, i, none⟩ = false := by simp [World.frozen?, h]
theorem heap_setCell_cells {w : World} {b t : Nat} {cs : Array Value} {fr : Nat × Nat} (h : w.heap[b]? = some (.cells cs t fr)) (i : Nat) (u : Value) : (w.setCell ⟨b, i, none⟩ u).heap[b]? = some (.cells (cs.setIfInBounds i u) t fr) := by
  simp only [World.setCell, Array.getElem?_modify, h]
  simp
theorem add0 (g j : Nat) : (⟨g, 0, none⟩ : Addr).add j = ⟨g, j, none⟩ := by unfold Addr.add; split <;> simp_all

/-- a slice of bytes of the call's own: it reads as l -/
def Own (w : World) (B : Nat) (v : Value) (l : List UInt8) : Prop := w.ownsRow B 5 1 v l.length (l.map fun c => .int .u8 c.toNat)
section
variable {w w' : World} {B : Nat} {v : Value} {l : List UInt8}
theorem own_nil (w : World) (B : Nat) : Own w B (.slice none 0 0) [] := World.ownsRow_nil w B 5 1
theorem Own.alloc (h : Own w B v l) (o : Obj) : Own (w.alloc o) B v l := World.ownsRow.alloc h o
theorem Own.drew (h : Own w B v l) : Own w.drew B v l := h
theorem Own.mono (h : Own w B v l) {B' : Nat} (hB : B' ≤ B) : Own w B' v l := by
  obtain ⟨h1, h2⟩ := h
  refine ⟨h1, ?_⟩
  rcases h2 with h2 | ⟨g, cap, cur, rfl, hb, hr⟩
  · exact .inl h2
  · exact .inr ⟨g, cap, cur, rfl, Nat.le_trans hB hb, hr⟩
/-- only blocks from which the row is apart have turned -/
theorem Own.same (h : Own w B v l) (hs : ∀ k, B ≤ k → k < w.heap.size → w'.heap[k]? = w.heap[k]?) : Own w' B v l := by
  obtain ⟨h1, h2⟩ := h
  refine ⟨h1, ?_⟩
  rcases h2 with h2 | ⟨g, cap, cur, rfl, hb, hg, hr⟩
  · exact .inl h2
  · exact .inr ⟨g, cap, cur, rfl, hb, (hs g hb (Array.getElem?_eq_some_iff.1 hg).1).trans hg, hr⟩
theorem Own.below (h : Own w B v l) (hb : Below w.heap.size w w') : Own w' B v l := h.same fun k _ hk => hb.block k hk
theorem Own.setCell (h : Own w B v l) {p : Addr} (hp : p.block < B) (u : Value) : Own (w.setCell p u) B v l :=
  h.same fun k hk _ => Below.heap_setCell _ _ _ _ (by omega)
theorem Own.slice (h : Own w B v l) : ∃ A c, v = .slice A l.length c := by
  rcases h.2 with ⟨rfl, h0⟩ | ⟨g, cap, cur, rfl, _⟩
  · exact ⟨none, 0, by rw [h0]⟩
  · exact ⟨_, _, rfl⟩
theorem Own.cell (h : Own w B v l) {j : Nat} (hj : j < l.length) : ∃ g c, v = .slice (some ⟨g, 0, none⟩) l.length c ∧ w.cell? ⟨g, j, none⟩ = some (.int .u8 (l.getD j 0).toNat) := by
  rcases h.2 with ⟨rfl, h0⟩ | ⟨g, cap, cur, rfl, _⟩
  · omega
  · refine ⟨g, cap, rfl, ?_⟩
    have := World.ownsRow.cells h (g := g) rfl j (.int .u8 (l.getD j 0).toNat) (by simp [List.getD, List.getElem?_eq_getElem hj])
    rwa [add0] at this
theorem nil_str (w : World) : (convert 41 9 (.slice none 0 0)).run Tryd.prog w = .ok (.string (str [])) w := by kernel_rfl
theorem Own.str (h : Own w B v l) : (convert 41 9 v).run Tryd.prog w = .ok (.string (str l)) w := by
  rcases h.2 with ⟨rfl, h0⟩ | ⟨g, cap, cur, rfl, hB, hg, _⟩
  · have : l = [] := List.eq_nil_of_length_eq_zero h0
    subst this
    exact nil_str w
  · rw [run_convert_bytes_arg w 41 5 Tryd.underlying41 Tryd.underlying5 g 0 l.length cap (l.map fun c => (c.toNat : Int)) (by simp) (fun i hi => by
      obtain ⟨g', c', e, hc⟩ := h.cell hi
      injection e with e1 e2 e3
      injection e1 with e1
      injection e1 with e1
      subst e1
      rw [Nat.zero_add, hc]
      simp [List.getD, List.getElem?_eq_getElem hi]) 9 Tryd.underlying9]
    simp [strOfNums, Function.comp_def, Go.Proofs.YtmbbigmnliiadaaDoor.str]
/-- a row that was laid just now -/
theorem own_laid (w : World) (l : List UInt8) (h0 : l ≠ []) (hl : l.length ≤ 1000) : Own (w.alloc (.cells (l.map fun c => Value.int .u8 c.toNat).toArray 5)) w.heap.size (.slice (some ⟨w.heap.size, 0, none⟩) l.length l.length) l :=
  ⟨by simp, .inr ⟨w.heap.size, l.length, _, rfl, Nat.le_refl _, heap_alloc_new w _, Nat.le_refl _, by unfold maxLen; omega, by simp, by simp [List.take_of_length_le]⟩⟩

theorem strCells_bl (s : ByteArray) : Lib.strCells s = (bl s).map fun c => Value.int .u8 c.toNat := rfl
/-- a string's bytes more -/
theorem run_app_str (h : Own w B v l) (hB : B ≤ w.heap.size) (s : ByteArray) (hl : l.length + s.size ≤ 100000000) (ty : TypeId) :
    ∃ v' w', (Builtin.append_ #[41, 9] ty #[v, .string s]).run Tryd.prog w = .ok v' w' ∧ Own w' B v' (l ++ bl s) ∧ Below B w w' := by
  obtain ⟨i0, hi0, hz0, hz1, hz2⟩ := info_parts Tryd.info5
  obtain ⟨v', w', h1, h2, h3, _⟩ := Lib.run_append_own_string (P := Tryd.prog) w B 41 9 ty 5 i0 Tryd.underlying41 Tryd.underlying9 hi0 hz0 hz1 hz2 v l.length _ h s (by unfold maxLen; omega) (by omega) hB
  refine ⟨v', w', h1, ?_, (Below.refl _ w).grown h3 hB (fun k hk => (World.ownsRow.lt h k hk).1)⟩
  unfold Own
  rw [List.length_append, List.map_append, bl_length]
  exact h2
theorem wpList_app_str {ops : Array Oper} {rest : List Oper} {o : Oper} {a : Act} {Q : Exit → Act → World → Prop} (hgd : o.guard = none) (sl x : Operand)
    (ho : o.op = .call { callee := .builtin .append, args := #[sl, x], argTypes := #[41, 9] }) (hs : a.eval sl = v) (h : Own w B v l) (hB : B ≤ w.heap.size) (s : ByteArray) (hx : a.eval x = .string s) (hl : l.length + s.size ≤ 100000000)
    (hK : ∀ v' w', Own w' B v' (l ++ bl s) → Below B w w' → wpList Tryd.prog ops Q rest (a.put o.dst v') w') : wpList Tryd.prog ops Q (o :: rest) a w := by
  refine wpList_plain hgd fun K hK' => ?_
  obtain ⟨v', w', hr, h2, h3⟩ := run_app_str h hB s hl o.type
  unfold Oper.wp execOp
  simp only [ho, resolve, invoke, builtin, Sem.run_bind, Sem.run_pure, Result.andThen_ok, List.map_toArray, List.map_cons, List.map_nil, hs, hx, hr]
  exact hK' _ _ (hK v' w' h2 h3)
/-- bytes more that were laid just now -/
theorem run_app_row (h : Own w B v l) (hB : B ≤ w.heap.size) (m : List UInt8) (g : Nat) (hg : w.heap[g]? = some (.cells (m.map fun c => Value.int .u8 c.toNat).toArray 5)) (hl : l.length + m.length ≤ 100000000) (ty : TypeId) (c : Nat) :
    ∃ v' w', (Builtin.append_ #[41, 41] ty #[v, .slice (some ⟨g, 0, none⟩) m.length c]).run Tryd.prog w = .ok v' w' ∧ Own w' B v' (l ++ m) ∧ Below B w w' := by
  obtain ⟨i0, hi0, hz0, hz1, hz2⟩ := info_parts Tryd.info5
  obtain ⟨v', w', h1, h2, h3, _⟩ := run_append_own_at (P := Tryd.prog) w B 41 ty 5 i0 (.int .u8 0) 1 1 Tryd.underlying41 hi0 hz0 hz1 hz2 rfl (by omega) v l.length _ h ⟨g, 0, none⟩ m.length c (m.map fun c => .int .u8 c.toNat) (by simp)
    (fun j u hu => by rw [add0, cell_of_cells hg]; simpa using hu) (by simp [Value.oneCell']) (by unfold maxLen; omega) (by omega) hB
  refine ⟨v', w', h1, ?_, (Below.refl _ w).grown h3 hB (fun k hk => (World.ownsRow.lt h k hk).1)⟩
  unfold Own
  rw [List.length_append, List.map_append]
  exact h2
theorem wpList_app_row {ops : Array Oper} {rest : List Oper} {o : Oper} {a : Act} {Q : Exit → Act → World → Prop} (hgd : o.guard = none) (sl x : Operand)
    (ho : o.op = .call { callee := .builtin .append, args := #[sl, x], argTypes := #[41, 41] }) (hs : a.eval sl = v) (h : Own w B v l) (hB : B ≤ w.heap.size) (m : List UInt8) (g c n : Nat) (hn : n = m.length) (hx : a.eval x = .slice (some ⟨g, 0, none⟩) n c)
    (hg : w.heap[g]? = some (.cells (m.map fun c => Value.int .u8 c.toNat).toArray 5)) (hl : l.length + m.length ≤ 100000000)
    (hK : ∀ v' w', Own w' B v' (l ++ m) → Below B w w' → wpList Tryd.prog ops Q rest (a.put o.dst v') w') : wpList Tryd.prog ops Q (o :: rest) a w := by
  subst hn
  refine wpList_plain hgd fun K hK' => ?_
  obtain ⟨v', w', hr, h2, h3⟩ := run_app_row h hB m g hg hl o.type c
  unfold Oper.wp execOp
  simp only [ho, resolve, invoke, builtin, Sem.run_bind, Sem.run_pure, Result.andThen_ok, List.map_toArray, List.map_cons, List.map_nil, hs, hx, hr]
  exact hK' _ _ (hK v' w' h2 h3)
end
end Go.Proofs.YtmbbigmnliiadaaDoor.Hg
namespace Go.Proofs.YtmbbigmnliiadaaDoor.Hg
open Go.RowKit
set_option linter.unusedVariables false

/-- what Open answers -/
def ans (r : List UInt8 × Int) : Value := .tuple #[.string (str r.1), .int .i64 r.2]
theorem ans_mk {r : List UInt8 × Int} {l : List UInt8} {c : Int} (h : r = (l, c)) : Ending.returned (.tuple #[.string (str l), .int .i64 c]) = .returned (ans r) := by rw [h]; rfl
theorem ans_no {r : List UInt8 × Int} {c : Int} (h : r = ([], c)) : Ending.returned (.tuple #[.string ⟨#[]⟩, .int .i64 c]) = .returned (ans r) := by rw [h]; rfl
theorem getD_at (s : ByteArray) (k j : Nat) (h : k + j < s.size) : ((bl s).drop k).getD j 0 = s[k + j] := by rw [Sq.drop_getD, bl_getD s _ h]
theorem bl_drop (s : ByteArray) (c : Nat) : bl (s.extract c s.size) = (bl s).drop c := by
  simp [bl, List.extract_eq_take_drop]
  exact List.take_of_length_le (by simp)
theorem bl_extract (s : ByteArray) (a b : Nat) : bl (s.extract a b) = ((bl s).take b).drop a := by
  simp [bl, List.extract_eq_take_drop, List.drop_take]
theorem bl_mid (s : ByteArray) (a n : Nat) : bl (s.extract a (a + n)) = ((bl s).drop a).take n := by
  rw [bl_extract, List.drop_take]
  congr 1
  omega
theorem openF_one (s : ByteArray) (M : Nat) (h : 0 < s.size) (h1 : (s[0]'h).toNat = 1) : Sq.openF (bl s) M = Sq.goF M [] ((bl s).drop 1) := by
  have h0 : (bl s).getD 0 0 = s[0] := bl_getD s 0 h
  match e : bl s with
  | [] => have := bl_length s; rw [e] at this; simp at this; omega
  | c :: r =>
    rw [e] at h0
    simp at h0
    subst h0
    simp [Sq.openF, h1]
theorem openF_nought (s : ByteArray) (M : Nat) (h : 0 < s.size) (h1 : (s[0]'h).toNat = 0) : Sq.openF (bl s) M = if M < s.size - 1 then ([], 9) else ((bl s).drop 1, 0) := by
  have h0 : (bl s).getD 0 0 = s[0] := bl_getD s 0 h
  have hl := bl_length s
  match e : bl s with
  | [] => rw [e] at hl; simp at hl; omega
  | c :: r =>
    rw [e] at h0 hl
    simp at h0 hl
    subst h0
    have : s.size - 1 = r.length := by omega
    simp [Sq.openF, h1, this]
theorem openF_form (s : ByteArray) (M : Nat) (h : 0 < s.size) (h1 : 1 < (s[0]'h).toNat) : Sq.openF (bl s) M = ([], 3) := by
  have h0 : (bl s).getD 0 0 = s[0] := bl_getD s 0 h
  match e : bl s with
  | [] => have := bl_length s; rw [e] at this; simp at this; omega
  | c :: r =>
    rw [e] at h0
    simp at h0
    subst h0
    simp [Sq.openF, show ¬ (s[0].toNat = 0) by omega, show ¬ (s[0].toNat = 1) by omega]
theorem openF_short (s : ByteArray) (M : Nat) (h : s.size = 0) : Sq.openF (bl s) M = ([], 2) := by
  have hl := bl_length s
  rw [h] at hl
  rw [List.eq_nil_of_length_eq_zero hl]; rfl

theorem slice_mid (s : ByteArray) (a b : Nat) (x y : Int) (hx : x = a) (hy : y = b) (h1 : a ≤ b) (h : b ≤ s.size) (W : World) : (Instr.slice 9 (.string s) (some (.int .i64 x)) (some (.int .i64 y)) none).run Tryd.prog W = .ok (.string (s.extract a b)) W := by
  subst hx hy
  have h := run_slice_string (P := Tryd.prog) (w := W) 9 s .i64 .i64 (a : Int) (b : Int) Tryd.underlying9 (by omega) (by omega) (by omega)
  rw [h, Int.toNat_natCast, Int.toNat_natCast]
theorem slice_from (s : ByteArray) (n : Nat) (x : Int) (hx : x = n) (h : n ≤ s.size) (W : World) : (Instr.slice 9 (.string s) (some (.int .i64 x)) none none).run Tryd.prog W = .ok (.string (s.extract n s.size)) W := by
  subst hx
  have h := run_slice_string_l (P := Tryd.prog) (w := W) (t := 9) (s := s) Tryd.underlying9 .i64 (n : Int) (by omega) (by omega)
  rw [h, Int.toNat_natCast]
theorem slice_to (s : ByteArray) (n : Nat) (x : Int) (hx : x = n) (h : n ≤ s.size) (W : World) : (Instr.slice 9 (.string s) none (some (.int .i64 x)) none).run Tryd.prog W = .ok (.string (s.extract 0 n)) W := by
  subst hx
  have h := run_slice_string_h (P := Tryd.prog) (w := W) (t := 9) (s := s) Tryd.underlying9 .i64 (n : Int) (by omega) (by omega)
  rw [h, Int.toNat_natCast]

/-- a text as the document's loop has told it -/
structure Mid (w wr : World) (s : ByteArray) (M k : Nat) (v : Value) (t : List UInt8) : Prop where
  k1 : 1 ≤ k
  k2 : k ≤ s.size
  own : Own wr w.heap.size v t
  below : Below w.heap.size w wr
  small : t.length ≤ 131 * k
  goes : Sq.goF M [] ((bl s).drop 1) = Sq.goF M t ((bl s).drop k)

end Go.Proofs.YtmbbigmnliiadaaDoor.Hg
