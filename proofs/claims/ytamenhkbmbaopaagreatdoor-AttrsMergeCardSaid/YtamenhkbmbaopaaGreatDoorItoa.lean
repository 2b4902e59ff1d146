/-
  Contract of strconv.Itoa at numbers from 0 on.
-/
import Derived.Test.YtamenhkbmbaopaaGreatDoorDrew
import Derived.Test.YtamenhkbmbaopaaGreatDoorRows
import Derived.Test.YtamenhkbmbaopaaGreatDoorStW
import Derived.Test.YtamenhkbmbaopaaGreatDoorShelfP
import Derived.WalkSmall
import Derived.Laws.Rows
namespace Go.Proofs.YtamenhkbmbaopaaGreatDoor
open Go.ChangeShapes Go.WideShapes Go.ChangeAt Go.RowKit

/-- The library's table of powers of ten is as its text lays it. -/
def TabOk (w : World) : Prop := Lib.TabIs Tryz.prog w "internal/strconv.uint64pow10" .u64 Lib.pow10Tab
theorem tab_named : Tryz.prog.globalNamed "internal/strconv.uint64pow10" = some 1 := by kernel_rfl
theorem TabOk.lt {w : World} (h : TabOk w) : 1 < w.heap.size := by
  rcases Nat.lt_or_ge 1 w.heap.size with hl | hl
  · exact hl
  · exfalso
    unfold TabOk Lib.TabIs World.var? at h
    rw [tab_named] at h
    simp only [Option.bind_some] at h
    rw [Array.getElem?_eq_none hl] at h
    cases h
theorem TabOk.below {B : Nat} {w w' : World} (h : TabOk w) (hb : Below B w w') (hB : w.heap.size ≤ B) : TabOk w' :=
  var?_below hb tab_named (Nat.lt_of_lt_of_le h.lt hB) h

theorem below_grow (w : World) (k : Nat) (os : Array Obj) : Below w.heap.size w (Go.Sort.grow (w.drewN k) os) :=
  ⟨rfl, rfl, rfl, by show _ ≤ (w.heap ++ os).size; simp, fun i hi => by show (w.heap ++ os)[i]? = w.heap[i]?; rw [Array.getElem?_append_left hi]⟩

theorem itoa_any (n : Int) (w : World) (h0 : 0 ≤ n) (h1 : n ≤ 9223372036854775807) (ht : TabOk w) :
    Calls Tryz.prog 81 #[.int .i64 n] w fun e w' => Below w.heap.size w w' ∧ e = .returned (.string ⟨(Lib.decDigits n.toNat).toArray⟩) :=
  (Tryz.strconv_Itoa n (by omega) h1 w ht).mono fun e w' ⟨he, k, os, hw⟩ => ⟨by rw [hw]; exact below_grow w k os, by rw [he]; unfold Lib.itoa; rw [if_neg (by omega)]⟩
end Go.Proofs.YtamenhkbmbaopaaGreatDoor
