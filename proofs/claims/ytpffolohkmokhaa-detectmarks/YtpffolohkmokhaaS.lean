/-
  Contracts of the document's own Digits, Begins and Bytes.
-/
import Derived.Test.YtpffolohkmokhaaR
import Derived.IntWalk
namespace Go.Proofs.Ytpffolohkmokhaa
open Go.RowKit
set_option linter.unusedVariables false

/-- bytes as cells -/
def bcells (l : List UInt8) : List Value := l.map fun c => .int .u8 c.toNat
theorem bcells_length (l : List UInt8) : (bcells l).length = l.length := by simp [bcells]
theorem bcells_append (a b : List UInt8) : bcells (a ++ b) = bcells a ++ bcells b := by simp [bcells]

/-- a row of the call's own, as a text -/
theorem own_string {w : World} {base n : Nat} {v : Value} {l : List UInt8} (h : w.ownsRow base 5 1 v n (bcells l)) : (convert 66 9 v).run Try.prog w = .ok (.string (str l)) w := by
  have hl : l.length = n := by have := h.1; rw [bcells_length] at this; omega
  subst hl
  rcases h.2 with ⟨rfl, h0⟩ | ⟨g, cap, cur, rfl, _, hg, _⟩
  · have : l = [] := List.eq_nil_of_length_eq_zero h0
    subst this
    exact run_convert_bytes_nil w 66 5 Try.underlying66 Try.underlying5 0 0 9 Try.underlying9
  · rw [run_convert_bytes_arg w 66 5 Try.underlying66 Try.underlying5 g 0 l.length cap (l.map fun c => (c.toNat : Int)) (by simp) (fun i hi => by
      have hc := h.cells (g := g) rfl i (.int .u8 (l[i].toNat)) (by simp [bcells, List.getElem?_eq_getElem hi])
      have ha : (⟨g, 0, none⟩ : Addr).add i = ⟨g, 0 + i, none⟩ := by unfold Addr.add; split <;> simp_all
      rw [ha] at hc
      rw [hc]
      simp [List.getD, List.getElem?_eq_getElem hi]) 9 Try.underlying9]
    simp [strOfNums, str, Function.comp_def]

theorem own_drawn {w w' : World} {base e size n : Nat} {v : Value} {xs : List Value} (h : w.ownsRow base e size v n xs) (hd : Drawn w w') : w'.ownsRow base e size v n xs := by
  obtain ⟨m, rfl⟩ := hd
  exact h

theorem digs_snoc (s : ByteArray) (k : Nat) (h : k < s.size) : M.digs ((bl s).take (k + 1)) = M.digs ((bl s).take k) ++ [M.hexc (s[k].toNat / 16), M.hexc (s[k].toNat % 16)] := by
  have hl : k < (bl s).length := by rw [bl_length]; exact h
  rw [List.take_succ_eq_append_getElem hl, M.digs_append]
  rfl

theorem begins_beq (b s : ByteArray) (h : s.size ≤ 2 * b.size) : ((((str (M.digs (bl b))).extract 0 s.size).toList == s.toList)) = M.begB (bl b) (bl s) := by
  rw [toList_bl, toList_bl, bl_take, bl_str, Bool.eq_iff_iff, beq_iff_eq, M.begB, List.isPrefixOf_iff_prefix, List.prefix_iff_eq_take, bl_length]
  exact eq_comm

theorem byteAt_val (s : ByteArray) (k j : Nat) (h : j + 1 < s.size) : j = 2 * k → ((M.byteAt (bl s) k).toNat : Int) = 16 * (M.worthV s[j] : Int) + (M.worthV s[j + 1] : Int) := by
  rintro rfl
  have h0 := M.worthV_lt s[2 * k]
  have h1 := M.worthV_lt s[2 * k + 1]
  rw [M.byteAt, bl_getD s _ (by omega), bl_getD s _ h, UInt8.toNat_ofNat', Nat.mod_eq_of_lt (by omega)]
  omega
theorem good_iff (s : ByteArray) (k j : Nat) (h : j + 1 < s.size) : j = 2 * k → M.good (bl s) k = (M.worthB s[j] && M.worthB s[j + 1]) := by
  rintro rfl
  rw [M.good, bl_getD s _ (by omega), bl_getD s _ h]

end Go.Proofs.Ytpffolohkmokhaa