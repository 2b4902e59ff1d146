/-
  The library's table of powers of ten, out of what the rows list (layer 6).
-/
import Derived.Test.YtafglickbaeoeaaDoorRows
import Derived.Test.YtafglickbaeoeaaDoorItoa
import Derived.MakeChecks
import Derived.Stop.LaidErr
import Derived.Lib.LaidTab
namespace Go.Proofs.YtafglickbaeoeaaDoor
open Go.ChangeShapes Go.WideShapes Go.ChangeAt Go.RowKit

theorem TabOk.of_laid {W : World} (h : laidMetH Tryd.prog Rows.recordParsesRow.laid W) : TabOk W := by
  replace h : laidMet Tryd.prog Rows.recordParsesRow.laid W := h
  have h2 := h.tail.tail
  exact Lib.tabIs_of_head (zs := Lib.pow10Tab) (t := 81) (e := 66) (n := 20) tab_named (by kernel_rfl) (by kernel_rfl) (by kernel_rfl) (by kernel_rfl) (by kernel_rfl) h2
end Go.Proofs.YtafglickbaeoeaaDoor
