/-
  The library's table of powers of ten, out of what the rows list (layer 7).
-/
import Derived.Test.YtamenhkbmbaopaaGreatDoorRows
import Derived.Test.YtamenhkbmbaopaaGreatDoorItoa
import Derived.MakeChecks
import Derived.Stop.LaidErr
import Derived.Lib.LaidTab
namespace Go.Proofs.YtamenhkbmbaopaaGreatDoor
open Go.ChangeShapes Go.WideShapes Go.ChangeAt Go.RowKit

theorem TabOk.of_laid {W : World} (h : laidMetH Tryz.prog Rows.attrsMergeRow.laid W) : TabOk W := by
  replace h : laidMet Tryz.prog Rows.attrsMergeRow.laid W := h
  have h2 := h.tail.tail
  exact Lib.tabIs_of_head (zs := Lib.pow10Tab) (t := 202) (e := 153) (n := 20) tab_named (by kernel_rfl) (by kernel_rfl) (by kernel_rfl) (by kernel_rfl) (by kernel_rfl) h2
end Go.Proofs.YtamenhkbmbaopaaGreatDoor
