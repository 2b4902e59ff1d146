/- The walk of the law OctalReads. -/
import Derived.Test.YteiogkcdjipjhaaOctA
namespace Go.Proofs.Yteiogkcdjipjhaa.octalReads
open Go.ChangeShapes Go.WideShapes Go.ChangeAt Go.RowKit

theorem walk (l : List UInt8) (hl : l.length ≤ maxLen) (w : World) :
    Calls Try.prog 3 #[.string ⟨l.toArray⟩] w fun e w' => Below w.heap.size w w' ∧ e = .returned (.bool true) := by
  have Hr := Lib.hid (read_any l w hl)
  have Hf := Lib.hid (refRead_any l w hl)
  have Ha := Lib.hid (awake_any w)
  unfold maxLen at hl
  by_cases h20 : 20 < l.length
  · have Hq := Lib.hid (show octRead l = (0, 1) by
      unfold octRead; rw [if_neg]; simp [isSize]; omega)
    rw [Hq.out] at Hr
    go_enter Try.func3, Try.ntmps3
    go_wp2_with fail
    refine Hr.out.mono ?_
    rintro e w' ⟨rfl, rfl⟩
    go_wp2_with fail
    refine Ha.out.mono ?_
    rintro e w1 ⟨hb, rfl⟩
    go_wp2
    go_ret
    exact ⟨hb, rfl⟩
  · generalize octRead l = r at *
    go_enter Try.func3, Try.ntmps3
    go_wp2_with fail
    refine Hr.out.mono ?_
    rintro e w' ⟨rfl, rfl⟩
    go_wp2_with fail
    refine Hf.out.mono ?_
    rintro e w' ⟨rfl, rfl⟩
    go_wp2_with fail
    refine Ha.out.mono ?_
    rintro e w1 ⟨hb, rfl⟩
    go_wp2
    go_ret
    exact ⟨hb, rfl⟩
end Go.Proofs.Yteiogkcdjipjhaa.octalReads
