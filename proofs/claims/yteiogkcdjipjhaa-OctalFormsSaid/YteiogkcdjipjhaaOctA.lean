/-
  The examples that each statement of layer 1 asks besides.
-/
import Derived.Test.YteiogkcdjipjhaaOctR
import Derived.Test.YteiogkcdjipjhaaOctRef
import Derived.Test.YteiogkcdjipjhaaOctW
namespace Go.Proofs.Yteiogkcdjipjhaa
open Go.ChangeShapes Go.WideShapes Go.ChangeAt Go.RowKit

theorem awake_any (w : World) :
    Calls Try.prog 8 #[] w fun e w' => Below w.heap.size w w' ∧ e = .returned (.bool true) := by
  have Hr := Lib.hid (show octRead [48, 48, 48, 48, 54, 52, 52, 0] = (420, 0) by decide)
  have Hw := Lib.hid (show octWrite 8 2 = ([128, 8], 0) by decide)
  go_enter Try.func8, Try.ntmps8
  go_wp2_with fail
  refine (read_any [48, 48, 48, 48, 54, 52, 52, 0] w (by decide)).mono ?_
  rw [Hr.out]
  rintro e w' ⟨rfl, rfl⟩
  go_wp2_with fail
  refine (write_any 8 2 w (by decide) (by decide)).mono ?_
  rw [Hw.out]
  rintro e w1 ⟨hb, rfl⟩
  go_wp2
  go_ret
  exact ⟨hb, rfl⟩
end Go.Proofs.Yteiogkcdjipjhaa
