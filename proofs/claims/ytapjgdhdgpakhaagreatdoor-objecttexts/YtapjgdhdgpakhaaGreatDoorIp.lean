/-
  Layer 10: the library's decimal digits are these.
-/
import Derived.Test.YtapjgdhdgpakhaaGreatDoorIa
import Derived.Lib.ItoaNum
namespace Go.Proofs.YtapjgdhdgpakhaaGreatDoor.Idf
theorem dec_lib (n : Nat) : Lib.decDigits n = dec n := by
  induction n using Nat.strongRecOn with
  | _ n ih =>
    by_cases h : n < 10
    · rw [Lib.decDigits, dif_pos h, dec_small h]
    · rw [Lib.decDigits, dif_neg h, dec_big h, ih (n / 10) (by omega)]
theorem itoa_lib (n : Nat) : Lib.itoa (n : Int) = dec n := by
  unfold Lib.itoa
  rw [if_neg (by omega), Int.toNat_natCast, dec_lib]
end Go.Proofs.YtapjgdhdgpakhaaGreatDoor.Idf
