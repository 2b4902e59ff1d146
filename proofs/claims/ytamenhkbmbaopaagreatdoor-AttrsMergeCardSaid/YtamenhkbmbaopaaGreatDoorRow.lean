/-
  A row written changes no elder block.
-/
import Derived.Test.YtamenhkbmbaopaaGreatDoorDrew
import Derived.Laws.AppendOwn
namespace Go.Proofs.YtamenhkbmbaopaaGreatDoor
open Go.ChangeShapes Go.WideShapes Go.ChangeAt Go.RowKit

theorem below_setRow {B g : Nat} {w0 w : World} (hb : Below B w0 w) (hBg : B ≤ g) (cs : Array Value) : Below B w0 (w.setRow g cs) :=
  hb.trans ⟨rfl, rfl, rfl, by simp, fun i hi => setRow_other w g i cs (by omega)⟩
end Go.Proofs.YtamenhkbmbaopaaGreatDoor
