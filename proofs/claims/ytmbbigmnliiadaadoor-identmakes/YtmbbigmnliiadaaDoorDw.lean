/-
  Contracts of the program's Scan (package detect) and of the laws' awake: what the document fixes.
-/
import Derived.Test.YtmbbigmnliiadaaDoorDj
import Derived.Test.YtmbbigmnliiadaaDoorD3
import Derived.Test.YtmbbigmnliiadaaDoorDz
namespace Go.Proofs.YtmbbigmnliiadaaDoor.Hd
open Go.RowKit Hs Hp
set_option linter.unusedVariables false

set_option maxRecDepth 100000 in
theorem scan_any (s : ByteArray) (w : World) (hs : s.size ≤ 10000) :
    Calls Tryd.prog 24 #[.string s] w fun e w' => e = .returned (.tuple #[.string ⟨(Sh.sum s.data.toList).toArray⟩, .bool (Dv.scan s.data.toList)]) ∧ Below w.heap.size w w' := by
  have HS := Lib.hid (fun W => sum_one s W (by omega))
  have HA := Lib.hid (fun g c W => anyMarked_any s g c W hs)
  generalize Dv.scan s.data.toList = b at *
  generalize (⟨(Sh.sum s.data.toList).toArray⟩ : ByteArray) = D at *
  go_enter Tryd.func24, Tryd.ntmps24
  go_wp2_with fail
  refine (HS.out w).mono ?_
  rintro e w1 ⟨rfl, hb1⟩
  go_wp2_with fail
  refine (differences_any _).mono ?_
  rintro e w2 ⟨g, rfl, h1, h2, hD, hb2⟩
  have hb12 := hb1.trans (hb2.mono hb1.size)
  go_wp2_with fail
  refine (HA.out g 21 _ hD h2).mono ?_
  rintro e w3 ⟨rfl, hb3⟩
  have HB := Lib.hid (hb12.trans (hb3.mono hb12.size))
  clear hb3 hb12 hb2 hb1 hD
  go_wp2
  go_ret2
  exact ⟨rfl, HB.out⟩

theorem vec16 : Dv.vecs.getD 16 (0, 0) = (2, 52) := rfl
theorem ok52 : sameWords (Dv.diff 2 52 0) [] = false := by rw [diff_nought]; rfl

end Go.Proofs.YtmbbigmnliiadaaDoor.Hd
